/- What the model's DrawReckon draws: steps, columns' names and a row. -/
import Derived.Test.YtclkcnkjjoolcaaDsE
import Derived.Test.YtclkcnkjjoolcaaRkP
import Derived.Test.YtclkcnkjjoolcaaLsT
import Derived.Test.YtclkcnkjjoolcaaInQ
import Derived.OwnWalk
namespace Go.Proofs.Ytclkcnkjjoolcaa.DsD
set_option maxRecDepth 8000
open Go.RowKit
open Ls Lp QtP DsP DsE RkP
open Draw (Cur Lft Bytes)
open Recs (hsz below1 below2 chain)
set_option linter.unusedVariables false
abbrev Hp (w : World) : Nat → Prop := fun g => g < w.heap.size
theorem NRow.keepG {w w' : World} {base b : Nat} {v : Value} {ns : List Int} (h : NRow w base v ns) (hb : b < base) (g : w.grownBy w' (some b)) : NRow w' base v ns := by
  refine ⟨h.1, ?_⟩
  rcases h.2 with hn | ⟨g', cap, cur, h1, hbs, hgg, rest⟩
  · exact .inl hn
  · exact .inr ⟨g', cap, cur, h1, hbs, by rw [g.block g' (Array.getElem?_eq_some_iff.1 hgg).1 (by simp; omega)]; exact hgg, rest⟩
theorem NRow.form {w : World} {base : Nat} {v : Value} {ns : List Int} (h : NRow w base v ns) : ∃ A c, v = .slice A ns.length c := by
  rcases h.2 with ⟨h1, h2⟩ | ⟨g', cap, cur, h1, _⟩
  · exact ⟨none, 0, by rw [h1, h2]⟩
  · exact ⟨_, cap, h1⟩
theorem NRow.lat {w : World} {base : Nat} {v : Value} {ns : List Int} (hn : ns.length ≤ 9223372036854775807) (h : NRow w base v ns) : LAt 1 EI w (Hp w) v ns := by
  refine ⟨hn, ?_⟩
  rcases h.2 with ⟨h1, h2⟩ | ⟨g, cap, cur, h1, h2, h3, h4, h5, h6, h7⟩
  · exact ⟨none, 0, by rw [h1, h2], .inl h2⟩
  · refine ⟨_, cap, h1, .inr ⟨g, 0, fun i _ => .int .i64 (ns.getD i default), rfl, (Array.getElem?_eq_some_iff.1 h3).1, h4, fun i hi j hj => ?_, fun i hi => rfl⟩⟩
    obtain rfl : j = 0 := by omega
    have := World.ownsRow.cellAt (h1 ▸ h) i (by simpa using hi)
    simp only [Nat.zero_add, Nat.mul_one, Nat.add_zero]
    rw [this]
    simp [hi]
theorem strs_lat {w : World} {g : Nat} {ty : TypeId} (l : List ByteArray) (h : w.heap[g]? = some (.cells (l.map Value.string).toArray ty (0, 0))) (hl : l.length ≤ 100) : LAt 1 EStr w (Hp w) (.slice (some ⟨g, 0, none⟩) l.length l.length) l := by
  refine ⟨by omega, _, l.length, rfl, .inr ⟨g, 0, fun i _ => .string (l.getD i default), rfl, (Array.getElem?_eq_some_iff.1 h).1, Nat.le_refl _, fun i hi j hj => ?_, fun i hi => rfl⟩⟩
  obtain rfl : j = 0 := by omega
  simp only [Nat.zero_add, Nat.mul_one, Nat.add_zero]
  rw [cell_of_row w g i _ _ (0, 0) h]
  simp [hi]
theorem lat_stp {w w' : World} {v : Value} {l : List Stp} (h : LAt 3 EStp w (Hp w) v l) (b : Below w.heap.size w w') : LAt 3 EStp w' (Hp w') v l := LAt.mono growsStp (LAt.below keepsStp h b (fun g hg => hg)) (fun g hg => Nat.lt_of_lt_of_le hg b.size)
theorem lat_str {w w' : World} {v : Value} {l : List ByteArray} (h : LAt 1 EStr w (Hp w) v l) (b : Below w.heap.size w w') : LAt 1 EStr w' (Hp w') v l := LAt.mono growsStr (LAt.below keepsStr h b (fun g hg => hg)) (fun g hg => Nat.lt_of_lt_of_le hg b.size)
theorem lat_int {w w' : World} {v : Value} {l : List Int} (h : LAt 1 EI w (Hp w) v l) (b : Below w.heap.size w w') : LAt 1 EI w' (Hp w') v l := LAt.mono growsI (LAt.below keepsI h b (fun g hg => hg)) (fun g hg => Nat.lt_of_lt_of_le hg b.size)
/-- A list without its first Step. -/
theorem tail_lat {w : World} {S : Nat → Prop} {A : Option Addr} {c : Nat} {l : List Stp} (h : LAt 3 EStp w S (.slice A l.length c) l) (hl : 0 < l.length) : ∃ g o, A = some ⟨g, o, none⟩ ∧ l.length ≤ c ∧ LAt 3 EStp w S (.slice (some ⟨g, o + 3, none⟩) l.tail.length (c - 1)) l.tail := by
  obtain ⟨hn, A', c', h1, h2⟩ := h
  simp only [Value.slice.injEq, true_and] at h1
  obtain ⟨rfl, rfl⟩ := h1
  obtain ⟨g, o, F, rfl, hg, hc, hcell, hel⟩ := h2.resolve_left (by omega)
  refine ⟨g, o, rfl, hc, by rw [List.length_tail]; omega, _, c - 1, rfl, .inr ⟨g, o + 3, fun i j => F (i + 1) j, rfl, hg, by rw [List.length_tail]; omega, fun i hi j hj => ?_, fun i hi => ?_⟩⟩
  · rw [List.length_tail] at hi
    have := hcell (i + 1) (by omega) j hj
    rw [show o + 3 + i * 3 + j = o + (i + 1) * 3 + j by omega]
    exact this
  · rw [List.length_tail] at hi
    have := hel (i + 1) (by omega)
    have e : l.tail.getD i default = l.getD (i + 1) default := by simp
    rw [e]
    exact this
abbrev abc : List ByteArray := [⟨#[97]⟩, ⟨#[98]⟩, ⟨#[99]⟩]
structure Dr (w1 wr : World) (b : Nat) (A : Option Addr) (n c : Nat) (v : Value) (ns : List Int) : Prop where
  row : NRow wr (w1.heap.size + 1) v ns
  lft : Lft w1 wr b A n c
  cols : wr.heap[w1.heap.size]? = some (.cells (abc.map Value.string).toArray 9 (0, 0))
theorem Dr.next {w1 wr w' : World} {b : Nat} {A : Option Addr} {n c : Nat} {v : Value} {ns : List Int} (h : Dr w1 wr b A n c v ns) (hb : b < w1.heap.size) (l : Lft wr w' b A n c) : Dr w1 w' b A n c v ns :=
  ⟨NRow.keepG h.row (by omega) l.grown, h.lft.trans l, (l.grown.block _ (Array.getElem?_eq_some_iff.1 h.cols).1 (by simp; omega)).trans h.cols⟩
theorem Dr.alloc {w1 wr : World} {b : Nat} {A : Option Addr} {n c : Nat} {v : Value} {ns : List Int} (h : Dr w1 wr b A n c v ns) (hb : b < w1.heap.size) (o : Obj) : Dr w1 (wr.alloc o) b A n c v ns := h.next hb ⟨h.lft.cur.alloc o, World.grownBy_alloc _ _ _⟩
theorem Dr.push {w1 wr w9 : World} {b : Nat} {A : Option Addr} {n c : Nat} {v v' : Value} {ns : List Int} {a : Int} (h0 : Cur w1 b A n c) (hb : b < w1.heap.size) (h : Dr w1 wr b A n c v ns) (hown : w9.ownsRow (w1.heap.size + 1) 3 1 v' (ns.length + 1) (ns.map (Value.int .i64) ++ [.int .i64 a])) (gr : wr.grownBy w9 v.ownBlock) : Dr w1 w9 b A n c v' (ns ++ [a]) := by
  have hge : ∀ k, v.ownBlock = some k → w1.heap.size + 1 ≤ k := fun k hk => (World.ownsRow.lt h.row k hk).1
  refine ⟨NRow.put hown, DrawB.Lft.above h0 h.lft gr (fun k hk => by have := hge k hk; omega), (gr.block _ (Array.getElem?_eq_some_iff.1 h.cols).1 (fun e => ?_)).trans h.cols⟩
  have := hge _ e.symm
  omega
theorem co_of {w1 wr : World} {b : Nat} {A : Option Addr} {n c : Nat} {v : Value} {ns : List Int} (h : Dr w1 wr b A n c v ns) (hb : b < w1.heap.size) : Co wr b w1.heap.size (fun i => abc.getD i ⟨#[]⟩) :=
  ⟨(Array.getElem?_eq_some_iff.1 h.cols).1, by omega, fun i hi => by
    rw [cell_of_row wr _ i _ _ (0, 0) h.cols]
    match i, hi with
    | 0, _ => rfl
    | 1, _ => rfl
    | 2, _ => rfl⟩
theorem below_of {w w1 wr : World} {A : Option Addr} {n c : Nat} (b1 : Below w.heap.size w w1) (s1 : w1.heap.size = w.heap.size + 1) (l : Lft w1 wr w.heap.size A n c) : Below w.heap.size w wr :=
  ⟨l.grown.os.trans b1.os, l.grown.tape.trans b1.tape, l.grown.output.trans b1.output, Nat.le_trans b1.size l.grown.size, fun k hk => (l.grown.block k (by omega) (by simp; omega)).trans (b1.block k hk)⟩
/-- What is drawn. -/
def Out (w : World) (e : Ending) (w' : World) : Prop := ∃ v1 v2 v3 l cols row, e = .returned (.tuple #[v1, v2, v3]) ∧ l.length ≤ 31 ∧ Sm l ∧ LAt 3 EStp w' (Hp w') v1 l ∧ LAt 1 EStr w' (Hp w') v2 cols ∧ LAt 1 EI w' (Hp w') v3 row ∧ Below w.heap.size w w'
set_option maxHeartbeats 12800000 in
theorem draw_any (A : Option Addr) (n c : Nat) (w : World) (hn : n ≤ 1048576) (hb0 : Bytes w w.heap.size A n c) :
    Calls Try.prog 5 #[.slice A n c] w (Out w) := by
  have HB := Seg.hid hb0
  clear hb0
  obtain ⟨i0, hi, hz0, hz1, hz2⟩ := info_parts infoI
  obtain ⟨i1, hj, hy0, hy1, hy2⟩ := info_parts infoS
  go_enter Try.func5, Try.ntmps5
  go_wp2_with fail
  refine (Draw.new_any A n c w hn HB.out).mono ?_
  rintro e w1 ⟨h, rfl, hw1⟩
  have C1 : Hid (Cur w1 w.heap.size A n c) := by subst hw1; exact Draw.cur_new hn HB.out h _
  have B1 : Hid (Below w.heap.size w w1) := by subst hw1; exact below1 _ _
  have s1 : w1.heap.size = w.heap.size + 1 := by subst hw1; exact hsz _ _
  clear hw1
  have S1 := Seg.hid s1
  have hb : w.heap.size < w1.heap.size := by omega
  clear s1
  obtain ⟨b, hbw⟩ : ∃ b, w.heap.size = b := ⟨_, rfl⟩
  have HBW := Seg.hid hbw
  rw [hbw] at C1 hb ⊢
  clear hbw
  obtain ⟨w2, hw2⟩ : ∃ w2, (w1.alloc (.cells #[.string ⟨#[97]⟩, .string ⟨#[98]⟩, .string ⟨#[99]⟩] 9 (0, 0))).alloc (.cells #[] 3 (0, 0)) = w2 := ⟨_, rfl⟩
  have D2 : Hid (Dr w1 w2 b A n c (.slice (some ⟨w1.heap.size + 1, 0, none⟩) 0 0) []) := by
    show Dr _ _ _ _ _ _ _ _
    rw [← hw2]
    refine ⟨⟨rfl, .inr ⟨w1.heap.size + 1, 0, #[], rfl, Nat.le_refl _, ?_, by simp, by unfold maxLen; omega, by simp, rfl⟩⟩, ⟨(C1.out.alloc _).alloc _, (World.grownBy_alloc _ _ _).trans (World.grownBy_alloc _ _ _)⟩, ?_⟩
    · have := heap_alloc_new (w1.alloc (.cells #[.string ⟨#[97]⟩, .string ⟨#[98]⟩, .string ⟨#[99]⟩] 9 (0, 0))) (.cells #[] 3 (0, 0))
      rw [hsz] at this
      exact this
    · exact (heap_alloc_old _ _ (by rw [hsz]; omega)).trans (heap_alloc_new _ _)
  go_upto_region 5 with fail
  try rw [hw2]
  clear hw2
  go_loopw [7, 8] (fun v i wr => ∃ (k : Nat) (ns : List Int), k ≤ 3 ∧ i = .int .i64 k ∧ ns.length = k ∧ Hid (Dr w1 wr b A n c v ns)) (fun _ i _ => 3 - (intOf i).toNat)
  case atStart => exact ⟨0, [], by omega, rfl, rfl, D2.out⟩
  case round =>
    clear D2
    obtain ⟨k, ns, hk, rfl, hnk, HD⟩ := hrel
    have HNK := Seg.hid hnk
    have hn3 : ns.length ≤ 3 := by omega
    obtain ⟨A7, c7, e7⟩ := NRow.form HD.out.row
    subst e7
    have hwr := HD.out.lft.grown.size
    by_cases hlt : k < 3
    · clear hnk
      go_wp2_with fail
      refine (pick_new [0, 1, -1, 7, -13, 100, 1000000000000000, -1000000000000000, 31622777] HD.out.lft.cur (by decide) (by decide) _ rfl).mono ?_
      rintro e w3 ⟨⟨x, rfl⟩, M3⟩
      have D3 := Seg.hid (HD.out.next hb M3)
      clear M3 HD
      have hw3 := D3.out.lft.grown.size
      have OW : Hid (∀ o1, (w3.alloc o1).ownsRow (w1.heap.size + 1) 3 1 (Value.slice A7 ns.length c7) ns.length (ns.map (Value.int .i64))) := fun o1 => (D3.out.alloc hb o1).row
      have PU : Hid (∀ o1 w9 v', w9.ownsRow (w1.heap.size + 1) 3 1 v' (ns.length + 1) (ns.map (Value.int .i64) ++ [.int .i64 x]) → (w3.alloc o1).grownBy w9 (Value.slice A7 ns.length c7).ownBlock → Dr w1 w9 b A n c v' (ns ++ [x])) := fun o1 w9 v' h1 h2 => (D3.out.alloc hb o1).push C1.out hb h1 h2
      have hs3 : w1.heap.size + 1 ≤ w3.heap.size := (Array.getElem?_eq_some_iff.1 D3.out.cols).1
      go_wp2_with (first | (at_builtin; (refine wpList_append_lies _ rfl _ _ 26 rfl (w1.heap.size + 1) 3 i0 _ 1 8 Try.underlying26 hi hz0 hz1 hz2 rfl (by decide) (Value.slice A7 ns.length c7) ns.length (ns.map (Value.int .i64)) rfl (OW.out _) ⟨w3.heap.size, 0, none⟩ 1 1 [.int .i64 x] rfl rfl (World.news_of_block (cs := #[.int .i64 x]) (heap_alloc_new _ _)) (by simp [Value.oneCell']) (by decide) (by unfold maxLen; omega) (by omega) (by rw [hsz]; omega) (w3.heap.size + 1) (by rw [hsz]) ?_; intro g9 cap9 w9 hown9 gr9 hat9 hlt9; have S9 := Seg.hid (PU.out _ _ _ hown9 gr9); clear hown9 gr9 hat9 hlt9)))
      go_roundw
      case rel => exact ⟨k + 1, ns ++ [x], by omega, by go_num, by have := HNK.out; simp; omega, S9.out⟩
      case measure => simp [intOf]; omega
    · have hk3 : ns.length = 3 := by omega
      have HK3 := Seg.hid hk3
      clear hnk hk3
      go_wp2_with fail
      refine (Draw.below_any b A n c 3 wr HD.out.lft.cur (by decide) (by decide)).mono ?_
      rintro e w3 ⟨⟨y, y0, y1, rfl⟩, M3⟩
      have D3 := Seg.hid (HD.out.next hb M3)
      clear M3 HD
      have wy : IntKind.i64.wrap (2 + y) = 2 + y := by rw [IntKind.wrap_i64] <;> omega
      go_wp2_with fail
      refine (expr_any b A n c w1.heap.size (fun i => abc.getD i ⟨#[]⟩) (fun i => by match i with | 0 => decide | 1 => decide | 2 => decide | (k + 3) => exact (show (⟨#[]⟩ : ByteArray).size ≤ 10 by decide)) 4 (by decide) (2 + y) w3 (by omega) D3.out.lft.cur (co_of D3.out hb)).mono ?_
      rintro e w4 ⟨v4, acc, rfl, p0, p1, p2, s4⟩
      have p1' : acc.length ≤ 31 := by have : (2 : Nat) ^ (4 + 1) = 32 := rfl; omega
      have D4 := Seg.hid (D3.out.next hb s4.lft)
      have SM := Seg.hid p2
      have SR := Seg.hid s4.own
      have hw34 := s4.lft.grown.size
      have hs3 : w1.heap.size + 1 ≤ w3.heap.size := (Array.getElem?_eq_some_iff.1 D3.out.cols).1
      have hb3 : b < w3.heap.size := by omega
      have RB3 : Hid (∀ y, (Value.slice A7 ns.length c7).ownBlock = some y → y < w3.heap.size) := fun y hy => (World.ownsRow.lt D3.out.row y hy).2
      clear s4 p2 p1 D3
      go_wp2_with fail
      refine (Draw.below_any b A n c 14 w4 D4.out.lft.cur (by decide) (by decide)).mono ?_
      rintro e w5 ⟨⟨z, z0, z1, rfl⟩, M5⟩
      have D5 := Seg.hid (D4.out.next hb M5)
      have SR5 := Seg.hid (SR.out.keep hb3 M5.grown)
      have hw45 := M5.grown.size
      clear M5 D4 SR
      have BL : Hid (Below w.heap.size w w5) := below_of B1.out S1.out (HBW.out.symm ▸ D5.out.lft)
      have LS : Hid (LAt 3 EStp w5 (Hp w5) v4 acc) := LAt.mono growsStp (SR5.out.lat (by omega)) (fun g hg => hg.2)
      have LC : Hid (LAt 1 EStr w5 (Hp w5) (.slice (some ⟨w1.heap.size, 0, none⟩) 3 3) abc) := strs_lat abc D5.out.cols (by decide)
      have LR : Hid (LAt 1 EI w5 (Hp w5) (Value.slice A7 ns.length c7) ns) := NRow.lat (by omega) D5.out.row
      obtain ⟨A4, c4, e4⟩ := SR5.out.form
      subst e4
      by_cases e0 : z = 0
      · subst e0
        obtain ⟨g7, cap7, e7, hg7, hg7', hce, hfr, hcap⟩ := NRow.open D5.out.row (by have := HK3.out; omega)
        simp only [Value.slice.injEq, true_and] at e7
        obtain ⟨rfl, rfl⟩ := e7
        have hlp : (0 : Int) < (ns.length : Int) := by have := HK3.out; omega
        have hlp2 : 0 < ns.length := by have := HK3.out; omega
        have hbg : b ≠ g7 := by omega
        go_wp2_with fail
        refine (pick_new [1000000000000001, -1000000000000001] D5.out.lft.cur (by decide) (by decide) _ rfl).mono ?_
        rintro e w6 ⟨⟨x, rfl⟩, M6⟩
        have D6 := Seg.hid (D5.out.next hb M6)
        have SR6 := Seg.hid (SR5.out.keep hb3 M6.grown)
        have hw56 := M6.grown.size
        have hf0 : w6.frozen? ⟨g7, 0, none⟩ = false := by
          obtain ⟨g8, cap8, e8, _, _, _, hfr8, _⟩ := NRow.open D6.out.row hlp2
          simp only [Value.slice.injEq, true_and, Option.some.injEq, Addr.mk.injEq] at e8
          rw [e8.1.1]; exact hfr8 0
        have hg6 : g7 < w6.heap.size := by omega
        have hc0 : w6.cell? ⟨g7, 0, none⟩ = some (.int .i64 (ns.getD 0 0)) := by
          obtain ⟨g8, cap8, e8, _, _, hce8, _, _⟩ := NRow.open D6.out.row hlp2
          simp only [Value.slice.injEq, true_and, Option.some.injEq, Addr.mk.injEq] at e8
          rw [e8.1.1]; exact hce8 0 hlp2
        clear M6 D5 SR5 LS LC LR BL
        have hcc : ns.length ≤ c7 := hcap
        go_wp2_with fail
        go_ret3
        have NS := NRow.set (j := 0) (a := x) D6.out.row hlp2
        have GS := Draw.grown_setCell w6 g7 0 (.int .i64 x)
        have hsz6 : (w6.setCell ⟨g7, 0, none⟩ (.int .i64 x)).heap.size = w6.heap.size := World.size_setCell ..
        have hg3 : g7 < w3.heap.size := RB3.out g7 rfl
        refine ⟨_, _, _, acc, abc, ns.set 0 x, rfl, p1', SM.out, LAt.mono growsStp (SRow.lat (by omega) (SR6.out.keep hg3 GS)) (fun g hg => hg.2), ?_, ?_, ?_⟩
        · exact strs_lat abc ((heap_setCell_other _ _ _ _ (by show w1.heap.size ≠ g7; omega)).trans D6.out.cols) (by decide)
        · exact NRow.lat (by rw [List.length_set]; omega) NS
        · have b6 := below_of B1.out S1.out (HBW.out.symm ▸ D6.out.lft)
          exact ⟨b6.os, b6.tape, b6.output, by rw [hsz6]; exact b6.size, fun k hk => (heap_setCell_other _ _ _ _ (by show k ≠ g7; have := HBW.out; omega)).trans (b6.block k hk)⟩
      · have f0 : (z == 0) = false := by simpa using e0
        by_cases e1 : z = 1
        · subst e1
          go_wp2_with fail
          go_ret3
          refine ⟨_, _, _, acc, [⟨#[97]⟩, ⟨#[98]⟩], ns, rfl, p1', SM.out, lat_stp LS.out (below1 _ _), strs_lat _ (heap_alloc_new w5 _) (by decide), lat_int LR.out (below1 _ _), chain BL.out (below1 _ _)⟩
        · have f1 : (z == 1) = false := by simpa using e1
          by_cases e2 : z = 2
          · subst e2
            go_wp2_with fail
            go_ret3
            refine ⟨_, _, _, acc, [⟨#[98]⟩, ⟨#[98]⟩, ⟨#[99]⟩], ns, rfl, p1', SM.out, lat_stp LS.out (below1 _ _), strs_lat _ (heap_alloc_new w5 _) (by decide), lat_int LR.out (below1 _ _), chain BL.out (below1 _ _)⟩
          · have f2 : (z == 2) = false := by simpa using e2
            by_cases e3 : z = 3
            · subst e3
              obtain ⟨g4, o4, ea, hcp, TL⟩ := tail_lat LS.out p0
              subst ea
              have htl : acc.tail.length = acc.length - 1 := List.length_tail
              have NW : Hid (acc.length - 1 ≠ 0 → ∃ ad, (if c4 = 1 then some (⟨g4, o4, none⟩ : Addr) else some ⟨g4, o4 + 3, none⟩) = some ad ∧ ∀ j u, (scells acc.tail)[j]? = some u → (w5.alloc (.cells #[] 32 (0, 0))).cell? (ad.add j) = some u) := fun hne => by
                have := news_of (lat_stp TL (below1 w5 (.cells #[] 32 (0, 0)))) (by rw [htl]; exact hne)
                rw [if_neg (by omega)]
                exact this
              have NL : Hid ((scells acc.tail).length = (acc.length - 1) * 3) := by show _ = _; rw [scells_len, htl]
              have ER := Seg.hid (empty_row w5)
              have SMT : Hid (Sm acc.tail) := fun s hs => SM.out s (List.mem_of_mem_tail hs)
              have HTL := Seg.hid htl
              have ia : (1 : Int) ≤ (acc.length : Int) := by omega
              have ib : (acc.length : Int) ≤ (c4 : Int) := by omega
              clear htl TL
              go_wp2_with (first | (at_builtin; (refine AppW.wpList_append_all _ rfl _ _ 24 rfl w5.heap.size 32 i1 _ 3 32 Try.underlying24 hj hy0 hy1 hy2 rfl (by decide) (.slice (some ⟨w5.heap.size, 0, none⟩) 0 0) 0 [] rfl ER.out (if c4 = 1 then some ⟨g4, o4, none⟩ else some ⟨g4, o4 + 3, none⟩) (acc.length - 1) (c4 - 1) (scells acc.tail) (by first | rfl | simp) NL.out NW.out (scells_one _) (by unfold maxLen; omega) (by omega) (by rw [hsz]; omega) ?_; intro v6 w6 hown6 gr6 hvb6; have S6 : Hid (SRow w6 w5.heap.size v6 acc.tail) := (SRow.add (l := []) (m := acc.tail) (by rw [HTL.out]; exact hown6)); have B6 : Hid (Below w5.heap.size w5 w6) := (below1 w5 _).grown gr6 (by rw [hsz]; omega) (fun k hk => by simp only [Value.ownBlock, Option.some.injEq] at hk; omega); clear hown6 gr6 hvb6)))
              all_goals
                go_ret3
                refine ⟨_, _, _, acc.tail, abc, ns, rfl, by have := HTL.out; omega, SMT.out, LAt.mono growsStp (S6.out.lat (by have := HTL.out; omega)) (fun g hg => hg.2), lat_str LC.out B6.out, lat_int LR.out B6.out, chain BL.out B6.out⟩
            · have f3 : (z == 3) = false := by simpa using e3
              go_wp2_with fail
              go_ret3
              exact ⟨_, _, _, acc, abc, ns, rfl, p1', SM.out, LS.out, LC.out, LR.out, BL.out⟩
end Go.Proofs.Ytclkcnkjjoolcaa.DsD
