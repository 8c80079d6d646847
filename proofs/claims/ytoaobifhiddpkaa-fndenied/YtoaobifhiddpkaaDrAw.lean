/- A question of rules, drawn. -/
import Derived.Test.YtoaobifhiddpkaaDrRs
namespace Go.Proofs.Ytoaobifhiddpkaa.DrAw
set_option maxRecDepth 8000
open Go.RowKit
open Ls Lp RuP PrP DrRu DrRs
open Draw (Cur Lft Bytes)
open Recs (hsz below1 below2 chain)
set_option linter.unusedVariables false
theorem below_grown {w w' : World} (b : Below w.heap.size w w') : w.grownBy w' none := ⟨b.os, b.tape, b.output, b.size, fun k hk _ => b.block k hk⟩
theorem RL.below {w wr w' : World} {b : Nat} {A : Option Addr} {n c : Nat} {v : Value} {acc : List Rul} (h0 : Cur w b A n c) (h : RL w wr b A n c v acc) (bl : Below wr.heap.size wr w') : RL w w' b A n c v acc :=
  ⟨rkeep h.own fun k _ hk => bl.block k hk, DrawB.Lft.above h0 h.lft (below_grown bl) (fun k e => by cases e), h.sm⟩
theorem results_tmp5 {fn : Func} {a b c d f : Tmp} (h : fn.results = #[.tmp a, .tmp b, .tmp c, .tmp d, .tmp f]) (tmps : Array Value) (P : Program) (w : World) :
    (results fn tmps).run P w = .ok (.tuple #[tmps.getD a undef, tmps.getD b undef, tmps.getD c undef, tmps.getD d undef, tmps.getD f undef]) w := by
  simp [results, h]
structure Aw (w : World) (e : Ending) (w' : World) : Prop where
  ex : ∃ (v : Value) (acc : List Rul) (who : ByteArray) (may on : Int) (name : ByteArray), e = .returned (.tuple #[v, .string who, .int .i64 may, .int .i64 on, .string name]) ∧ acc.length ≤ 5 ∧ (∀ r ∈ acc, Sm r) ∧ who.size ≤ 10 ∧ name.size ≤ 10 ∧ 1 ≤ on ∧ on ≤ 2 ∧ LAt 6 ERul w' (fun g => g < w'.heap.size) v acc
  bel : Below w.heap.size w w'
set_option maxHeartbeats 6400000 in
theorem draw_any (A : Option Addr) (n c : Nat) (w : World) (hn : n ≤ 1048576) (hb0 : Bytes w w.heap.size A n c) :
    Calls Try.prog 5 #[.slice A n c] w fun e w' => Aw w e w' := by
  obtain ⟨i0, hi, hz0, hz1, hz2⟩ := info_parts infoZRul
  have HB := Seg.hid hb0
  clear hb0
  go_enter Try.func5, Try.ntmps5
  go_wp2_with fail
  refine (Draw.new_any A n c w hn HB.out).mono ?_
  rintro e w1 ⟨h, rfl, hw1⟩
  have C1 : Hid (Cur w1 w.heap.size A n c) := by subst hw1; exact Draw.cur_new hn HB.out h _
  have B1 : Hid (Below w.heap.size w w1) := by subst hw1; exact below1 _ _
  clear hw1
  have hb := C1.out.lt
  have FIN : Hid (∀ (wx : World) (v : Value) (acc : List Rul) (who : ByteArray) (may on : Int) (name : ByteArray), RL w1 wx w.heap.size A n c v acc → acc.length ≤ 5 → who.size ≤ 10 → name.size ≤ 10 → 1 ≤ on → on ≤ 2 → Aw w (.returned (.tuple #[v, .string who, .int .i64 may, .int .i64 on, .string name])) wx) := fun wx v acc who may on name h h1 h2 h3 h4 h5 => ⟨⟨v, acc, who, may, on, name, rfl, h1, h.sm, h2, h3, h4, h5, ro_lat (by omega) h.own⟩, bel_of B1.out hb h.lft⟩
  have A0 : Hid (RL w1 (w1.alloc (.cells #[] 30 (0, 0))) w.heap.size A n c (.slice (some ⟨w1.heap.size, 0, none⟩) 0 0) []) := ⟨rnew w1 w1.heap.size (Nat.le_refl _), ⟨C1.out.alloc _, World.grownBy_alloc _ _ _⟩, fun r hr => by cases hr⟩
  go_upto_region 3 with fail
  obtain ⟨w0, hw0⟩ : ∃ w0, w1.alloc (.cells #[] 30 (0, 0)) = w0 := ⟨_, rfl⟩
  rw [hw0]
  rw [hw0] at A0
  clear hw0
  go_wp2_with fail
  refine (Draw.below_any w.heap.size A n c 6 w0 A0.out.lft.cur (by decide) (by decide)).mono ?_
  rintro e w2 ⟨⟨y, y0, y1, rfl⟩, L2⟩
  have A2 := Seg.hid (A0.out.next hb L2)
  clear L2 A0
  obtain ⟨k0, rfl⟩ := Int.eq_ofNat_of_zero_le y0
  go_wp2_with fail
  go_loopw [8, 9] (fun v i wr => ∃ (k : Nat) (acc : List Rul), i = .int .i64 k ∧ acc.length + k ≤ 5 ∧ Hid (RL w1 wr w.heap.size A n c v acc)) (fun _ i _ => (intOf i).toNat)
  case atStart => exact ⟨k0, [], rfl, by simp; omega, A2.out⟩
  case round =>
    clear A2
    obtain ⟨k, acc, rfl, hla, HR⟩ := hrel
    by_cases hlt : 0 < k
    · have f1 : (0 : Int) < (k : Int) := by omega
      have wk : IntKind.i64.wrap ((k : Int) - 1) = (k : Int) - 1 := by rw [IntKind.wrap_i64] <;> omega
      go_wp2_with fail
      refine (drawn_any w.heap.size A n c wr HR.out.lft.cur).mono ?_
      rintro e w3 ⟨⟨R, rfl, hs⟩, L3⟩
      have A3 := Seg.hid (HR.out.next hb L3)
      clear L3 HR
      go_upto_region 7 with fail
      obtain ⟨q, hq⟩ : ∃ q, w3.heap.size = q := ⟨_, rfl⟩
      obtain ⟨w4, hw4⟩ : ∃ w4, w3.alloc (.cells (rrow R) 30 (0, 0)) = w4 := ⟨_, rfl⟩
      rw [hw4, hq]
      have R4 : Hid (w4.heap[q]? = some (.cells (rrow R) 30 (0, 0))) := by show _ = _; rw [← hw4, ← hq]; exact heap_alloc_new _ _
      have A4 : Hid (RL w1 w4 w.heap.size A n c u8 acc) := by show RL _ _ _ _ _ _ _ _; rw [← hw4]; exact A3.out.alloc hb _
      have hqb : w.heap.size < q := by have := A3.out.lft.grown.size; omega
      clear hw4 hq A3
      obtain ⟨⟨c0, c1, c2, c3, c4, c5⟩, _⟩ := sixR R4.out
      have l4 := (Array.getElem?_eq_some_iff.1 R4.out).1
      obtain ⟨fl, hfl⟩ : ∃ fl, okR R = fl := ⟨_, rfl⟩
      have CR : Hid (∀ wx, Calls Try.prog 13 #[.agg (rrow R)] wx fun e w' => e = .returned (.bool fl) ∧ Below wx.heap.size wx w') := fun wx => by
        have := RuS.rule_any R wx (by have := hs.1; unfold maxLen; omega) (by have := hs.2; unfold maxLen; omega)
        rw [hfl] at this
        exact this
      clear hfl
      have PUSH : Hid (∀ wx, RL w1 wx w.heap.size A n c u8 acc → ∀ o1 w9 v', w9.ownsRow w1.heap.size 30 6 v' (acc.length + 1) (rcells acc ++ (rrow R).toList) → (wx.alloc o1).grownBy w9 u8.ownBlock → RL w1 w9 w.heap.size A n c v' (acc ++ [R])) := fun wx hx o1 w9 v' h1 h2 => hx.push C1.out hs h1 h2
      have ROW : Hid (∀ wx, w4.grownBy wx (some w.heap.size) → wx.heap[q]? = some (.cells (rrow R) 30 (0, 0))) := fun wx g => (g.block _ l4 (by simp; omega)).trans R4.out
      cases fl with
      | true =>
        go_upto_region 8 with (first | (go_at_call 13; refine (CR.out _).mono ?_; rintro e w5 ⟨rfl, b5⟩; have A5 := Seg.hid (RL.below C1.out A4.out b5); have R5 := Seg.hid ((b5.block _ l4).trans R4.out); clear b5))
        have W5 : Hid (RL w1 w5 w.heap.size A n c u8 acc) := A5
        clear A4 R4 A5 c0 c1 c2 c3 c4 c5 l4 CR ROW
        obtain ⟨⟨c0, c1, c2, c3, c4, c5⟩, _⟩ := sixR R5.out
        have l5 := (Array.getElem?_eq_some_iff.1 R5.out).1
        have s5 := W5.out.lft.grown.size
        have OW : Hid (∀ o1, (w5.alloc o1).ownsRow w1.heap.size 30 6 u8 acc.length (rcells acc)) := fun o1 => (W5.out.alloc hb o1).own
        have PU := Seg.hid (PUSH.out w5 W5.out)
        go_wp2_with (first | (at_builtin; (refine wpList_append_lies _ rfl _ _ 24 rfl w1.heap.size 30 i0 _ 6 64 Try.underlying24 hi hz0 hz1 hz2 rfl (by decide) u8 acc.length (rcells acc) rfl (OW.out _) ⟨w5.heap.size, 0, none⟩ 1 1 (rrow R).toList rfl rfl (World.news_of_block (cs := rrow R) (heap_alloc_new _ _)) (by simp [Value.oneCell']) (by decide) (by unfold maxLen; omega) (by omega) (by rw [hsz]; omega) (w5.heap.size + 1) (by rw [hsz]) ?_; intro g9 cap9 w9 hown9 gr9 hat9 hlt9; have S9 := Seg.hid (PU.out _ _ _ hown9 gr9); clear hown9 gr9 hat9 hlt9)))
        go_roundw
        case rel => exact ⟨k - 1, acc ++ [R], by congr 1; omega, (by rw [List.length_append]; simp only [List.length_cons, List.length_nil]; omega), S9.out⟩
        case measure => simp [intOf]; omega
      | false =>
        go_wp2_with (first | (go_at_call 13; refine (CR.out _).mono ?_; rintro e w6 ⟨rfl, b6⟩; have A6 := Seg.hid (RL.below C1.out A4.out b6); have R6 := Seg.hid ((b6.block _ l4).trans R4.out); clear b6))
        refine (Draw.once_any w.heap.size A n c 9 w6 A6.out.lft.cur (by decide) (by decide)).mono ?_
        rintro e w5 ⟨⟨x5, rfl⟩, L5⟩
        have l6 := (Array.getElem?_eq_some_iff.1 R6.out).1
        have R5 : Hid (w5.heap[q]? = some (.cells (rrow R) 30 (0, 0))) := (L5.grown.block _ l6 (by simp; omega)).trans R6.out
        have W5 := Seg.hid (A6.out.next hb L5)
        clear L5 A4 R4 A6 R6 c0 c1 c2 c3 c4 c5 l4 l6 CR ROW
        cases x5 with
        | false =>
          go_wp2_with fail
          go_roundw
          case rel => exact ⟨k - 1, acc, by congr 1; omega, by omega, W5.out⟩
          case measure => simp [intOf]; omega
        | true =>
          go_upto_region 8 with fail
          obtain ⟨⟨c0, c1, c2, c3, c4, c5⟩, _⟩ := sixR R5.out
          have l5 := (Array.getElem?_eq_some_iff.1 R5.out).1
          have s5 := W5.out.lft.grown.size
          have OW : Hid (∀ o1, (w5.alloc o1).ownsRow w1.heap.size 30 6 u8 acc.length (rcells acc)) := fun o1 => (W5.out.alloc hb o1).own
          have PU := Seg.hid (PUSH.out w5 W5.out)
          go_wp2_with (first | (at_builtin; (refine wpList_append_lies _ rfl _ _ 24 rfl w1.heap.size 30 i0 _ 6 64 Try.underlying24 hi hz0 hz1 hz2 rfl (by decide) u8 acc.length (rcells acc) rfl (OW.out _) ⟨w5.heap.size, 0, none⟩ 1 1 (rrow R).toList rfl rfl (World.news_of_block (cs := rrow R) (heap_alloc_new _ _)) (by simp [Value.oneCell']) (by decide) (by unfold maxLen; omega) (by omega) (by rw [hsz]; omega) (w5.heap.size + 1) (by rw [hsz]) ?_; intro g9 cap9 w9 hown9 gr9 hat9 hlt9; have S9 := Seg.hid (PU.out _ _ _ hown9 gr9); clear hown9 gr9 hat9 hlt9)))
          go_roundw
          case rel => exact ⟨k - 1, acc ++ [R], by congr 1; omega, (by rw [List.length_append]; simp only [List.length_cons, List.length_nil]; omega), S9.out⟩
          case measure => simp [intOf]; omega
    · have f1 : ¬ (0 : Int) < (k : Int) := by omega
      have hl5 : acc.length ≤ 5 := by omega
      go_wp2_with fail
      refine (Draw.below_any w.heap.size A n c 3 wr HR.out.lft.cur (by decide) (by decide)).mono ?_
      rintro e w3 ⟨⟨y3, y30, y31, rfl⟩, L3⟩
      have A3 := Seg.hid (HR.out.next hb L3)
      clear L3 HR
      go_wp2_with fail
      refine (Draw.once_any w.heap.size A n c 20 w3 A3.out.lft.cur (by decide) (by decide)).mono ?_
      rintro e w4 ⟨⟨x4, rfl⟩, L4⟩
      have A4 := Seg.hid (A3.out.next hb L4)
      clear L4 A3
      cases x4 with
      | false =>
        have WA := A4
        clear A4
        go_wp2_with fail
        refine (pickS_new [⟨#[97, 110, 110]⟩, ⟨#[98, 111, 98]⟩, ⟨#[99, 121]⟩, ⟨#[100, 101, 101]⟩, ⟨#[97, 110, 110]⟩, ⟨#[42]⟩] WA.out.lft.cur (by decide) (by decide) (by decide) _ rfl).mono ?_
        rintro e w6 ⟨⟨s6, z6, rfl⟩, L6⟩
        have W6 := Seg.hid (WA.out.next hb L6)
        clear L6 WA
        go_wp2_with fail
        refine (Draw.below_any w.heap.size A n c 2 w6 W6.out.lft.cur (by decide) (by decide)).mono ?_
        rintro e w7 ⟨⟨y7, y70, y71, rfl⟩, L7⟩
        have W7 := Seg.hid (W6.out.next hb L7)
        clear L7 W6
        have w17 : IntKind.i64.wrap (1 + y7) = 1 + y7 := by rw [IntKind.wrap_i64] <;> omega
        go_wp2_with fail
        refine (pickS_new [⟨#[111, 114, 100, 101, 114, 115]⟩, ⟨#[111, 114]⟩, ⟨#[97]⟩, ⟨#[117, 115, 101, 114, 115]⟩, ⟨#[111, 114, 100, 101, 114, 115, 50]⟩, ⟨#[]⟩, ⟨#[98]⟩] W7.out.lft.cur (by decide) (by decide) (by decide) _ rfl).mono ?_
        rintro e w8 ⟨⟨s8, z8, rfl⟩, L8⟩
        have F8 := Seg.hid (fun may => FIN.out w8 u8 acc s6 may (1 + y7) s8 (W7.out.next hb L8) hl5 z6 z8 (by omega) (by omega))
        clear L8 W7
        go_wp2_with fail
        (try simp only [Exit.inBlock, Exit.then])
        refine bodyPost_ret (results_tmp5 rfl _ _ _) rfl ?_
        exact F8.out _
      | true =>
        go_wp2_with fail
        refine (pick_new [0, 4] A4.out.lft.cur (by decide) (by decide) _ rfl).mono ?_
        rintro e w5 ⟨⟨r5, rfl⟩, L5⟩
        have WA := Seg.hid (A4.out.next hb L5)
        clear L5 A4
        go_wp2_with fail
        refine (pickS_new [⟨#[97, 110, 110]⟩, ⟨#[98, 111, 98]⟩, ⟨#[99, 121]⟩, ⟨#[100, 101, 101]⟩, ⟨#[97, 110, 110]⟩, ⟨#[42]⟩] WA.out.lft.cur (by decide) (by decide) (by decide) _ rfl).mono ?_
        rintro e w6 ⟨⟨s6, z6, rfl⟩, L6⟩
        have W6 := Seg.hid (WA.out.next hb L6)
        clear L6 WA
        go_wp2_with fail
        refine (Draw.below_any w.heap.size A n c 2 w6 W6.out.lft.cur (by decide) (by decide)).mono ?_
        rintro e w7 ⟨⟨y7, y70, y71, rfl⟩, L7⟩
        have W7 := Seg.hid (W6.out.next hb L7)
        clear L7 W6
        have w17 : IntKind.i64.wrap (1 + y7) = 1 + y7 := by rw [IntKind.wrap_i64] <;> omega
        go_wp2_with fail
        refine (pickS_new [⟨#[111, 114, 100, 101, 114, 115]⟩, ⟨#[111, 114]⟩, ⟨#[97]⟩, ⟨#[117, 115, 101, 114, 115]⟩, ⟨#[111, 114, 100, 101, 114, 115, 50]⟩, ⟨#[]⟩, ⟨#[98]⟩] W7.out.lft.cur (by decide) (by decide) (by decide) _ rfl).mono ?_
        rintro e w8 ⟨⟨s8, z8, rfl⟩, L8⟩
        have F8 := Seg.hid (fun may => FIN.out w8 u8 acc s6 may (1 + y7) s8 (W7.out.next hb L8) hl5 z6 z8 (by omega) (by omega))
        clear L8 W7
        go_wp2_with fail
        (try simp only [Exit.inBlock, Exit.then])
        refine bodyPost_ret (results_tmp5 rfl _ _ _) rfl ?_
        exact F8.out _
end Go.Proofs.Ytoaobifhiddpkaa.DrAw
