/- An expression, drawn; Lists of numbers: what the law's helpers answer. -/
import Derived.Deep.AppendLies
import Derived.Test.YtkohhcjpjloaaaaJW08
import Derived.Test.YtkohhcjpjloaaaaJW09
import Derived.Test.YtkohhcjpjloaaaaJW23
import Derived.Test.YtkohhcjpjloaaaaJW04
namespace Go.Proofs.Ytkohhcjpjloaaaa.DsE
set_option maxRecDepth 8000
open Go.RowKit
open Ls Lp QtP DsP
open Draw (Cur Lft Bytes)
open Recs (hsz below1 below2 chain)
set_option linter.unusedVariables false
theorem infoS : (Try.prog.info? 55).map (fun i => (i.zero, i.size, i.bytes)) = some (some (.agg #[.int .i64 0, .int .i64 0, .string ⟨#[]⟩]), 3, 32) := by kernel_rfl
/-- One of some numbers in a row just made. -/
theorem pick_new {w : World} {b : Nat} {A : Option Addr} {n c : Nat} (l : List Int) (hc : Cur w b A n c) (hl0 : 0 < l.length) (hl1 : l.length ≤ 1000) (cs : Array Value) (hcs : cs = (l.map (Value.int .i64)).toArray) :
    Calls Try.prog 13 #[.pointer (some ⟨b, 0, none⟩), .slice (some ⟨w.heap.size, 0, none⟩) l.length l.length] (w.alloc (.cells cs 3 (0, 0))) fun e w' => (∃ x : Int, e = .returned (.int .i64 x)) ∧ Lft w w' b A n c := by
  subst hcs
  refine (Draw.pickInt_any b A n c w.heap.size l.length (fun i => l.getD i 0) _ (hc.alloc _) hl0 hl1 (by rw [hsz]; omega) (by have := hc.lt; omega) (fun i hi => ?_)).mono ?_
  · rw [cell_of_row _ _ i _ _ (0, 0) (heap_alloc_new _ _)]
    simp [hi]
  · rintro e w' ⟨⟨i, _, rfl⟩, L⟩
    exact ⟨⟨_, rfl⟩, ⟨L.cur, (World.grownBy_alloc _ _ _).trans L.grown⟩⟩
/-- The columns' names. -/
structure Co (w : World) (b g : Nat) (f : Nat → ByteArray) : Prop where
  lt : g < w.heap.size
  ne : g ≠ b
  cell : ∀ i, i < 3 → w.cell? ⟨g, i, none⟩ = some (.string (f i))
theorem Co.next {w w' : World} {b g : Nat} {f : Nat → ByteArray} {A : Option Addr} {n c : Nat} (h : Co w b g f) (l : Lft w w' b A n c) : Co w' b g f :=
  ⟨Nat.lt_of_lt_of_le h.lt l.grown.size, h.ne, fun i hi => l.grown.cell (h.cell i hi) (by have := h.ne; simp; omega)⟩
theorem SL.lone {w wr : World} {b : Nat} {A : Option Addr} {n c : Nat} (h : Lft w wr b A n c) (s : Stp) : SL w (wr.alloc (.cells #[.int .i64 s.op, .int .i64 s.num, .string s.name] 55 (0, 0))) b A n c (.slice (some ⟨wr.heap.size, 0, none⟩) 1 1) [s] :=
  ⟨(one_row wr s).weak h.grown.size, h.trans ⟨h.cur.alloc _, World.grownBy_alloc _ _ _⟩⟩
set_option maxHeartbeats 12800000 in
theorem expr_any (b : Nat) (A : Option Addr) (n c g : Nat) (f : Nat → ByteArray) (hz : ∀ i, (f i).size ≤ 10) : ∀ (d : Nat), d ≤ 8 → ∀ (deep : Int) (w : World), deep ≤ d → Cur w b A n c → Co w b g f →
    Calls Try.prog 23 #[.pointer (some ⟨b, 0, none⟩), .slice (some ⟨g, 0, none⟩) 3 3, .int .i64 deep] w fun e w' => ∃ v acc, e = .returned v ∧ 0 < acc.length ∧ acc.length < 2 ^ (d + 1) ∧ Sm acc ∧ SL w w' b A n c v acc := by
  obtain ⟨i0, hi, hz0, hz1, hz2⟩ := info_parts infoS
  intro d
  induction d with
  | zero =>
    intro hd8 deep w hdp hc hco
    have HC := Seg.hid hc
    have HO := Seg.hid hco
    have hb := hc.lt
    clear hc hco
    have hd0 : deep ≤ 0 := by omega
    have hdd : decide (deep ≤ 0) = true := decide_eq_true hd0
    have L0 : Hid (Lft w w b A n c) := Lft.refl HC.out
    go_enter Try.func23, Try.ntmps23
    go_wp2_with fail
    refine (Draw.once_any b A n c 2 w L0.out.cur (by decide) (by decide)).mono ?_
    rintro e v1 ⟨⟨x1, rfl⟩, M1⟩
    have L1 := Seg.hid (L0.out.trans M1)
    clear M1
    cases x1 with
    | true =>
      go_wp2_with fail
      refine (pick_new [0, 1, 2, 5, 10, 100, 1000000000000000] L1.out.cur (by decide) (by decide) _ rfl).mono ?_
      rintro e v2 ⟨⟨y, rfl⟩, M2⟩
      have L2 := Seg.hid (L1.out.trans M2)
      clear M2
      go_wp2_with fail
      go_ret
      exact ⟨_, [⟨1, y, ⟨#[]⟩⟩], rfl, by simp, by simp, Sm.one (show (0 : Nat) ≤ 10 by decide), SL.lone L2.out ⟨1, y, ⟨#[]⟩⟩⟩
    | false =>
      go_wp2_with fail
      refine (Draw.pick_any b A n c g 3 f v1 L1.out.cur (by decide) (by decide) (HO.out.next L1.out).lt (HO.out.next L1.out).ne (HO.out.next L1.out).cell).mono ?_
      rintro e v2 ⟨⟨y, hy, rfl⟩, M2⟩
      have L2 := Seg.hid (L1.out.trans M2)
      have hzy := hz y
      clear M2
      generalize f y = nm at *
      go_wp2_with fail
      go_ret
      exact ⟨_, [⟨2, 0, nm⟩], rfl, by simp, by simp, Sm.one hzy, SL.lone L2.out ⟨2, 0, nm⟩⟩
  | succ d ih =>
    intro hd8 deep w hdp hc hco
    have HC := Seg.hid hc
    have HO := Seg.hid hco
    have hb := hc.lt
    clear hc hco
    have L0 : Hid (Lft w w b A n c) := Lft.refl HC.out
    have hpow : 2 ^ (d + 1 + 1) = 2 * 2 ^ (d + 1) := by rw [Nat.pow_succ]; omega
    have hpow2 : 2 ^ (d + 1) ≤ 2 ^ 9 := Nat.pow_le_pow_right (by decide) (by omega)
    have hpow3 : 2 ≤ 2 ^ (d + 1) := by have := Nat.pow_le_pow_right (n := 2) (by decide) (show 1 ≤ d + 1 by omega); simpa using this
    have IH : Hid (∀ (deep : Int) (w : World), deep ≤ d → Cur w b A n c → Co w b g f → Calls Try.prog 23 #[.pointer (some ⟨b, 0, none⟩), .slice (some ⟨g, 0, none⟩) 3 3, .int .i64 deep] w fun e w' => ∃ v acc, e = .returned v ∧ 0 < acc.length ∧ acc.length < 2 ^ (d + 1) ∧ Sm acc ∧ SL w w' b A n c v acc) := ih (by omega)
    clear ih
    rw [hpow]
    obtain ⟨P, hP⟩ : ∃ P, 2 ^ (d + 1) = P := ⟨_, rfl⟩
    rw [hP] at IH hpow2 hpow3 ⊢
    clear hpow hP
    by_cases hd0 : deep ≤ 0
    · have hdd : decide (deep ≤ 0) = true := decide_eq_true hd0
      go_enter Try.func23, Try.ntmps23
      go_wp2_with fail
      refine (Draw.once_any b A n c 2 w L0.out.cur (by decide) (by decide)).mono ?_
      rintro e v1 ⟨⟨x1, rfl⟩, M1⟩
      have L1 := Seg.hid (L0.out.trans M1)
      clear M1
      cases x1 with
      | true =>
        go_wp2_with fail
        refine (pick_new [0, 1, 2, 5, 10, 100, 1000000000000000] L1.out.cur (by decide) (by decide) _ rfl).mono ?_
        rintro e v2 ⟨⟨y, rfl⟩, M2⟩
        have L2 := Seg.hid (L1.out.trans M2)
        clear M2
        go_wp2_with fail
        go_ret
        exact ⟨_, [⟨1, y, ⟨#[]⟩⟩], rfl, by simp, by simp; omega, Sm.one (show (0 : Nat) ≤ 10 by decide), SL.lone L2.out ⟨1, y, ⟨#[]⟩⟩⟩
      | false =>
        go_wp2_with fail
        refine (Draw.pick_any b A n c g 3 f v1 L1.out.cur (by decide) (by decide) (HO.out.next L1.out).lt (HO.out.next L1.out).ne (HO.out.next L1.out).cell).mono ?_
        rintro e v2 ⟨⟨y, hy, rfl⟩, M2⟩
        have L2 := Seg.hid (L1.out.trans M2)
        have hzy := hz y
        clear M2
        generalize f y = nm at *
        go_wp2_with fail
        go_ret
        exact ⟨_, [⟨2, 0, nm⟩], rfl, by simp, by simp; omega, Sm.one hzy, SL.lone L2.out ⟨2, 0, nm⟩⟩
    · have hdd : decide (deep ≤ 0) = false := decide_eq_false hd0
      have wz : IntKind.i64.wrap (deep - 1) = deep - 1 := by rw [IntKind.wrap_i64] <;> omega
      go_enter Try.func23, Try.ntmps23
      go_wp2_with fail
      refine (Draw.once_any b A n c 3 w L0.out.cur (by decide) (by decide)).mono ?_
      rintro e wa ⟨⟨xa, rfl⟩, MA⟩
      have LA := Seg.hid (L0.out.trans MA)
      clear MA L0
      cases xa with
      | true =>
        go_wp2_with fail
        refine (Draw.once_any b A n c 2 wa LA.out.cur (by decide) (by decide)).mono ?_
        rintro e v1 ⟨⟨x1, rfl⟩, M1⟩
        have L1 := Seg.hid (LA.out.trans M1)
        clear M1
        cases x1 with
        | true =>
          go_wp2_with fail
          refine (pick_new [0, 1, 2, 5, 10, 100, 1000000000000000] L1.out.cur (by decide) (by decide) _ rfl).mono ?_
          rintro e v2 ⟨⟨y, rfl⟩, M2⟩
          have L2 := Seg.hid (L1.out.trans M2)
          clear M2
          go_wp2_with fail
          go_ret
          exact ⟨_, [⟨1, y, ⟨#[]⟩⟩], rfl, by simp, by simp; omega, Sm.one (show (0 : Nat) ≤ 10 by decide), SL.lone L2.out ⟨1, y, ⟨#[]⟩⟩⟩
        | false =>
          go_wp2_with fail
          refine (Draw.pick_any b A n c g 3 f v1 L1.out.cur (by decide) (by decide) (HO.out.next L1.out).lt (HO.out.next L1.out).ne (HO.out.next L1.out).cell).mono ?_
          rintro e v2 ⟨⟨y, hy, rfl⟩, M2⟩
          have L2 := Seg.hid (L1.out.trans M2)
          have hzy := hz y
          clear M2
          generalize f y = nm at *
          go_wp2_with fail
          go_ret
          exact ⟨_, [⟨2, 0, nm⟩], rfl, by simp, by simp; omega, Sm.one hzy, SL.lone L2.out ⟨2, 0, nm⟩⟩
      | false =>
        go_wp2_with fail
        refine (IH.out (deep - 1) wa (by omega) LA.out.cur (HO.out.next LA.out)).mono ?_
        rintro e w2 ⟨x2, acc, rfl, p0, p1, p2, s2⟩
        have S2 : Hid (SL w w2 b A n c x2 acc) := ⟨s2.own.weak LA.out.grown.size, LA.out.trans s2.lft⟩
        have SMX := Seg.hid p2
        clear s2 p2 LA
        go_wp2_with fail
        refine (Draw.once_any b A n c 6 w2 S2.out.lft.cur (by decide) (by decide)).mono ?_
        rintro e w3 ⟨⟨x3, rfl⟩, M3⟩
        have S3 := Seg.hid (S2.out.next hb M3)
        clear M3 S2
        cases x3 with
        | true =>
          obtain ⟨A2, c2, e2⟩ := S3.out.own.form
          subst e2
          have hs9 := S3.out.lft.grown.size
          have OW : Hid (∀ o1, (w3.alloc o1).ownsRow w.heap.size 55 3 (Value.slice A2 acc.length c2) acc.length (scells acc)) := fun o1 => (S3.out.alloc hb o1).own
          have PU : Hid (∀ o1 w9 v', w9.ownsRow w.heap.size 55 3 v' (acc.length + 1) (scells acc ++ [.int .i64 12, .int .i64 0, .string ⟨#[]⟩]) → (w3.alloc o1).grownBy w9 (Value.slice A2 acc.length c2).ownBlock → SL w w9 b A n c v' (acc ++ [(⟨12, 0, ⟨#[]⟩⟩ : Stp)])) := fun o1 w9 v' h1 h2 => SL.push (m := [(⟨12, 0, ⟨#[]⟩⟩ : Stp)]) HC.out (S3.out.alloc hb o1) h1 h2
          go_wp2_with (first | (at_builtin; (refine wpList_append_lies _ rfl _ _ 24 rfl w.heap.size 55 i0 _ 3 32 Try.underlying24 hi hz0 hz1 hz2 rfl (by decide) (Value.slice A2 acc.length c2) acc.length (scells acc) rfl (OW.out _) ⟨w3.heap.size, 0, none⟩ 1 1 [.int .i64 12, .int .i64 0, .string ⟨#[]⟩] rfl rfl (World.news_of_block (cs := #[.int .i64 12, .int .i64 0, .string ⟨#[]⟩]) (heap_alloc_new _ _)) (by simp [Value.oneCell']) (by decide) (by unfold maxLen; omega) (by omega) (by rw [hsz]; omega) (w3.heap.size + 1) (by rw [hsz]) ?_; intro g9 cap9 w9 hown9 gr9 hat9 hlt9; have S9 := Seg.hid (PU.out _ _ _ hown9 gr9); clear hown9 gr9 hat9 hlt9)))
          go_ret
          exact ⟨_, _, rfl, by simp, by simp; omega, SMX.out.app (Sm.one (s := ⟨12, 0, ⟨#[]⟩⟩) (show (0 : Nat) ≤ 10 by decide)), S9.out⟩
        | false =>
          go_wp2_with fail
          refine (IH.out (deep - 1) w3 (by omega) S3.out.lft.cur (HO.out.next S3.out.lft)).mono ?_
          rintro e w4 ⟨x4, bcc, rfl, r0, r1, r2, s4⟩
          have S4 := Seg.hid (S3.out.next hb s4.lft)
          have SMY := Seg.hid r2
          obtain ⟨A2, c2, e2⟩ := S4.out.own.form
          subst e2
          obtain ⟨A4, c4, e4⟩ := s4.own.form
          subst e4
          have NW := Seg.hid (news_of (s4.own.lat (by omega)))
          have hs4 := S4.out.lft.grown.size
          have PU4 : Hid (∀ w9 v', w9.ownsRow w.heap.size 55 3 v' (acc.length + bcc.length) (scells acc ++ scells bcc) → w4.grownBy w9 (Value.slice A2 acc.length c2).ownBlock → SL w w9 b A n c v' (acc ++ bcc)) := fun w9 v' h1 h2 => SL.push HC.out S4.out h1 h2
          clear s4 r2 S3
          go_wp2_with (first | (at_builtin; (refine AppW.wpList_append_all _ rfl _ _ 24 rfl w.heap.size 55 i0 _ 3 32 Try.underlying24 hi hz0 hz1 hz2 rfl (by decide) (.slice A2 acc.length c2) acc.length (scells acc) rfl S4.out.own A4 bcc.length c4 (scells bcc) rfl (scells_len bcc) NW.out (scells_one bcc) (by unfold maxLen; omega) (by omega) (by omega) ?_; intro v5 w5 hown5 gr5 hvb5; have S5 := Seg.hid (PU4.out _ _ hown5 gr5); clear hown5 gr5 hvb5)))
          refine (Draw.below_any b A n c 9 w5 S5.out.lft.cur (by decide) (by decide)).mono ?_
          rintro e w6 ⟨⟨y6, y60, y61, rfl⟩, M6⟩
          have S6 := Seg.hid (S5.out.next hb M6)
          clear M6 S5 S4 NW PU4
          have wy : IntKind.i64.wrap (3 + y6) = 3 + y6 := by rw [IntKind.wrap_i64] <;> omega
          have hlab : (acc ++ bcc).length = acc.length + bcc.length := List.length_append
          have SMZ := Seg.hid (SMX.out.app SMY.out)
          clear SMX SMY
          obtain ⟨ab, hab⟩ : ∃ l, acc ++ bcc = l := ⟨_, rfl⟩
          rw [hab] at S6 hlab SMZ
          have HLAB := Seg.hid hlab
          have hab5 : ab.length ≤ 2000 := by omega
          clear hab hlab
          obtain ⟨A6, c6, e6⟩ := S6.out.own.form
          subst e6
          have hs9 := S6.out.lft.grown.size
          have OW : Hid (∀ o1, (w6.alloc o1).ownsRow w.heap.size 55 3 (Value.slice A6 ab.length c6) ab.length (scells ab)) := fun o1 => (S6.out.alloc hb o1).own
          have PU : Hid (∀ o1 w9 v', w9.ownsRow w.heap.size 55 3 v' (ab.length + 1) (scells ab ++ [.int .i64 (3 + y6), .int .i64 0, .string ⟨#[]⟩]) → (w6.alloc o1).grownBy w9 (Value.slice A6 ab.length c6).ownBlock → SL w w9 b A n c v' (ab ++ [(⟨3 + y6, 0, ⟨#[]⟩⟩ : Stp)])) := fun o1 w9 v' h1 h2 => SL.push (m := [(⟨3 + y6, 0, ⟨#[]⟩⟩ : Stp)]) HC.out (S6.out.alloc hb o1) h1 h2
          go_wp2_with (first | (at_builtin; (refine wpList_append_lies _ rfl _ _ 24 rfl w.heap.size 55 i0 _ 3 32 Try.underlying24 hi hz0 hz1 hz2 rfl (by decide) (Value.slice A6 ab.length c6) ab.length (scells ab) rfl (OW.out _) ⟨w6.heap.size, 0, none⟩ 1 1 [.int .i64 (3 + y6), .int .i64 0, .string ⟨#[]⟩] rfl rfl (World.news_of_block (cs := #[.int .i64 (3 + y6), .int .i64 0, .string ⟨#[]⟩]) (heap_alloc_new _ _)) (by simp [Value.oneCell']) (by decide) (by unfold maxLen; omega) (by omega) (by rw [hsz]; omega) (w6.heap.size + 1) (by rw [hsz]) ?_; intro g9 cap9 w9 hown9 gr9 hat9 hlt9; have S9 := Seg.hid (PU.out _ _ _ hown9 gr9); clear hown9 gr9 hat9 hlt9)))
          go_ret
          exact ⟨_, _, rfl, by simp, by have := HLAB.out; simp; omega, SMZ.out.app (Sm.one (s := ⟨3 + y6, 0, ⟨#[]⟩⟩) (show (0 : Nat) ≤ 10 by decide)), S9.out⟩
end Go.Proofs.Ytkohhcjpjloaaaa.DsE
namespace Go.Proofs.Ytkohhcjpjloaaaa.Ls
set_option maxRecDepth 8000
open Go.RowKit
open Recs
set_option linter.unusedVariables false
theorem infoI : (Try.prog.info? 3).map (fun i => (i.zero, i.size, i.bytes)) = some (some (.int .i64 0), 1, 8) := by kernel_rfl
end Go.Proofs.Ytkohhcjpjloaaaa.Ls
