/- Lists of rules, drawn. -/
import Derived.Test.YtoaobifhiddpkaaDrRu
import Derived.Test.YtoaobifhiddpkaaPrP
import Derived.Test.YtoaobifhiddpkaaRuS
import Derived.Deep.AppendLies
namespace Go.Proofs.Ytoaobifhiddpkaa.DrRs
set_option maxRecDepth 8000
open Go.RowKit
open Ls Lp RuP PrP DrRu
open Draw (Cur Lft Bytes)
open Recs (hsz below1 below2 chain)
set_option linter.unusedVariables false
structure RL (w wr : World) (b : Nat) (A : Option Addr) (n c : Nat) (v : Value) (acc : List Rul) : Prop where
  own : RRow wr w.heap.size v acc
  lft : Lft w wr b A n c
  sm : ∀ r ∈ acc, Sm r
theorem owns_keep {w w' : World} {base b : Nat} {v : Value} {acc : List Rul} (h : RRow w base v acc) (hb : b < base) (g : w.grownBy w' (some b)) : RRow w' base v acc :=
  rkeep h fun k hk hlt => g.block k hlt (by simp; omega)
theorem RL.next {w wr w' : World} {b : Nat} {A : Option Addr} {n c : Nat} {v : Value} {acc : List Rul} (h : RL w wr b A n c v acc) (hb : b < w.heap.size) (l : Lft wr w' b A n c) : RL w w' b A n c v acc := ⟨owns_keep h.own hb l.grown, h.lft.trans l, h.sm⟩
theorem RL.alloc {w wr : World} {b : Nat} {A : Option Addr} {n c : Nat} {v : Value} {acc : List Rul} (h : RL w wr b A n c v acc) (hb : b < w.heap.size) (o : Obj) : RL w (wr.alloc o) b A n c v acc := h.next hb ⟨h.lft.cur.alloc o, World.grownBy_alloc _ _ _⟩
theorem RL.ownB {w wr : World} {b : Nat} {A : Option Addr} {n c : Nat} {v : Value} {acc : List Rul} (h : RL w wr b A n c v acc) : ∀ x, v.ownBlock = some x → w.heap.size ≤ x := fun x hx => by
  rcases h.own.2 with ⟨h1, _⟩ | ⟨g', cap, cur, h1, h2, _⟩
  · rw [h1] at hx; cases hx
  · rw [h1] at hx; cases hx; exact h2
theorem RL.push {w wr w9 : World} {b : Nat} {A : Option Addr} {n c : Nat} {v v' : Value} {acc : List Rul} {a : Rul} {o : Obj} (h0 : Cur w b A n c) (h : RL w wr b A n c v acc) (hs : Sm a) (hown : w9.ownsRow w.heap.size 30 6 v' (acc.length + 1) (rcells acc ++ (rrow a).toList)) (gr : (wr.alloc o).grownBy w9 v.ownBlock) : RL w w9 b A n c v' (acc ++ [a]) :=
  ⟨by show w9.ownsRow _ _ _ _ _ _; rw [List.length_append, rcells_app]; exact hown, DrawB.Lft.above h0 (h.alloc h0.lt o).lft gr (fun k hk => h.ownB k hk), fun r hr => by
    rcases List.mem_append.1 hr with h1 | h1
    · exact h.sm r h1
    · rw [List.mem_singleton.1 h1]; exact hs⟩
theorem RL.form {w wr : World} {b : Nat} {A : Option Addr} {n c : Nat} {v : Value} {acc : List Rul} (h : RL w wr b A n c v acc) : ∃ B d, v = .slice B acc.length d := by
  rcases h.own.2 with ⟨h1, h2⟩ | ⟨g, cap, cur, h1, _⟩
  · exact ⟨none, 0, by rw [h1, h2]⟩
  · exact ⟨_, cap, h1⟩
structure An (w : World) (b : Nat) (A : Option Addr) (n c : Nat) (e : Ending) (w' : World) : Prop where
  ex : ∃ v acc, e = .returned v ∧ acc.length ≤ 101 ∧ RL w w' b A n c v acc
def lenV : Value → Nat
  | .slice _ n _ => n
  | _ => 0
theorem oneR (r : Rul) : (rrow r).toList.all (·.oneCell') = true := by simp [Value.oneCell']
set_option maxHeartbeats 3200000 in
theorem rules_any (b : Nat) (A : Option Addr) (n c : Nat) (many : Int) (w : World) (hc : Cur w b A n c) (hm0 : 0 ≤ many) (hm1 : many ≤ 8) :
    Calls Try.prog 17 #[.pointer (some ⟨b, 0, none⟩), .int .i64 many] w fun e w' => An w b A n c e w' := by
  obtain ⟨i0, hi, hz0, hz1, hz2⟩ := info_parts infoZRul
  have HC := Seg.hid hc
  have hb := hc.lt
  clear hc
  have A0 : Hid (RL w (w.alloc (.cells #[] 30 (0, 0))) b A n c (.slice (some ⟨w.heap.size, 0, none⟩) 0 0) []) := ⟨rnew w w.heap.size (Nat.le_refl _), ⟨HC.out.alloc _, World.grownBy_alloc _ _ _⟩, fun r hr => by cases hr⟩
  have wm : IntKind.i64.wrap (many + 1) = many + 1 := by rw [IntKind.wrap_i64] <;> omega
  go_enter Try.func17, Try.ntmps17
  go_upto_region 2 with fail
  obtain ⟨w0, hw0⟩ : ∃ w0, w.alloc (.cells #[] 30 (0, 0)) = w0 := ⟨_, rfl⟩
  rw [hw0]
  rw [hw0] at A0
  clear hw0
  go_wp2_with fail
  refine (Draw.below_any b A n c (many + 1) w0 A0.out.lft.cur (by omega) (by omega)).mono ?_
  rintro e w1 ⟨⟨y, y0, y1, rfl⟩, L1⟩
  have A1 := Seg.hid (A0.out.next hb L1)
  clear L1 A0
  obtain ⟨k0, rfl⟩ := Int.eq_ofNat_of_zero_le y0
  go_wp2_with fail
  go_loopw [5, 6] (fun v i wr => ∃ (k : Nat) (acc : List Rul), i = .int .i64 k ∧ acc.length + k ≤ 9 ∧ Hid (RL w wr b A n c v acc)) (fun _ i _ => (intOf i).toNat)
  case atStart => exact ⟨k0, [], rfl, by simp; omega, A1.out⟩
  case round =>
    clear A1
    obtain ⟨k, acc, rfl, hla, HR⟩ := hrel
    by_cases hlt : 0 < k
    · have f1 : (0 : Int) < (k : Int) := by omega
      have wk : IntKind.i64.wrap ((k : Int) - 1) = (k : Int) - 1 := by rw [IntKind.wrap_i64] <;> omega
      go_wp2_with fail
      refine (drawn_any b A n c wr HR.out.lft.cur).mono ?_
      rintro e w2 ⟨⟨R, rfl, hs⟩, L2⟩
      have A2 := Seg.hid (HR.out.next hb L2)
      clear L2 HR
      have s2 := A2.out.lft.grown.size
      have OW : Hid (∀ o1, (w2.alloc o1).ownsRow w.heap.size 30 6 u5 acc.length (rcells acc)) := fun o1 => (A2.out.alloc hb o1).own
      have PU : Hid (∀ o1 w9 v', w9.ownsRow w.heap.size 30 6 v' (acc.length + 1) (rcells acc ++ (rrow R).toList) → (w2.alloc o1).grownBy w9 u5.ownBlock → RL w w9 b A n c v' (acc ++ [R])) := fun o1 w9 v' h1 h2 => A2.out.push HC.out hs h1 h2
      go_wp2_with (first | (at_builtin; (refine wpList_append_lies _ rfl _ _ 24 rfl w.heap.size 30 i0 _ 6 64 Try.underlying24 hi hz0 hz1 hz2 rfl (by decide) u5 acc.length (rcells acc) rfl (OW.out _) ⟨w2.heap.size, 0, none⟩ 1 1 (rrow R).toList rfl rfl (World.news_of_block (cs := rrow R) (heap_alloc_new _ _)) (by simp [Value.oneCell']) (by decide) (by unfold maxLen; omega) (by omega) (by rw [hsz]; omega) (w2.heap.size + 1) (by rw [hsz]) ?_; intro g9 cap9 w9 hown9 gr9 hat9 hlt9; have S9 := Seg.hid (PU.out _ _ _ hown9 gr9); clear hown9 gr9 hat9 hlt9)))
      go_roundw
      case rel => exact ⟨k - 1, acc ++ [R], by congr 1; omega, (by rw [List.length_append]; simp only [List.length_cons, List.length_nil]; omega), S9.out⟩
      case measure => simp [intOf]; omega
    · have f1 : ¬ (0 : Int) < (k : Int) := by omega
      go_wp2_with fail
      refine (Draw.once_any b A n c 30 wr HR.out.lft.cur (by decide) (by decide)).mono ?_
      rintro e w2 ⟨⟨x, rfl⟩, L2⟩
      have A2 := Seg.hid (HR.out.next hb L2)
      clear L2 HR
      cases x with
      | false =>
        have AN : Hid (An w b A n c (.returned u5) w2) := ⟨⟨u5, acc, rfl, by omega, A2.out⟩⟩
        go_wp2_with fail
        go_ret
        exact AN.out
      | true =>
        go_wp2_with fail
        go_loopw [5] (fun v wr => ∃ (bcc : List Rul), bcc.length ≤ 101 ∧ lenV v = bcc.length ∧ Hid (RL w wr b A n c v bcc)) (fun v _ => 102 - lenV v)
        case atStart => exact ⟨acc, by omega, (by obtain ⟨B, d, e⟩ := A2.out.form; rw [e]; rfl), A2.out⟩
        case round =>
          clear A2
          rename_i wr0
          obtain ⟨bcc, hlb, hlv, HI⟩ := hrel
          obtain ⟨B, d, hv⟩ := HI.out.form
          subst hv
          go_wp2_with fail
          refine (Draw.below_any b A n c 2 _ HI.out.lft.cur (by decide) (by decide)).mono ?_
          rintro e w3 ⟨⟨y, y0, y1, rfl⟩, L3⟩
          have A3 := Seg.hid (HI.out.next hb L3)
          clear L3 HI
          have s3 := A3.out.lft.grown.size
          have wy : IntKind.i64.wrap (100 + y) = 100 + y := by rw [IntKind.wrap_i64] <;> omega
          by_cases hl2 : (bcc.length : Int) < 100 + y
          · have OW : Hid (∀ o1, (w3.alloc o1).ownsRow w.heap.size 30 6 (.slice B bcc.length d) bcc.length (rcells bcc)) := fun o1 => (A3.out.alloc hb o1).own
            have PU : Hid (∀ o1 w9 v', w9.ownsRow w.heap.size 30 6 v' (bcc.length + 1) (rcells bcc ++ (rrow ⟨false, ⟨#[42]⟩, 1, 1, ⟨#[97]⟩, false⟩).toList) → (w3.alloc o1).grownBy w9 (Value.slice B bcc.length d).ownBlock → RL w w9 b A n c v' (bcc ++ [⟨false, ⟨#[42]⟩, 1, 1, ⟨#[97]⟩, false⟩])) := fun o1 w9 v' h1 h2 => A3.out.push HC.out ⟨by decide, by decide⟩ h1 h2
            go_wp2_with (first | (at_builtin; (refine wpList_append_lies _ rfl _ _ 24 rfl w.heap.size 30 i0 _ 6 64 Try.underlying24 hi hz0 hz1 hz2 rfl (by decide) (.slice B bcc.length d) bcc.length (rcells bcc) rfl (OW.out _) ⟨w3.heap.size, 0, none⟩ 1 1 (rrow ⟨false, ⟨#[42]⟩, 1, 1, ⟨#[97]⟩, false⟩).toList rfl rfl (World.news_of_block (cs := rrow ⟨false, ⟨#[42]⟩, 1, 1, ⟨#[97]⟩, false⟩) (heap_alloc_new _ _)) (by simp [Value.oneCell']) (by decide) (by unfold maxLen; omega) (by omega) (by rw [hsz]; omega) (w3.heap.size + 1) (by rw [hsz]) ?_; intro g9 cap9 w9 hown9 gr9 hat9 hlt9; have S9 := Seg.hid (PU.out _ _ _ hown9 gr9); clear hown9 gr9 hat9 hlt9)))
            go_roundw
            case rel => exact ⟨bcc ++ [(⟨false, ⟨#[42]⟩, 1, 1, ⟨#[97]⟩, false⟩ : Rul)], (by rw [List.length_append]; simp only [List.length_cons, List.length_nil]; omega), (by rw [List.length_append]; rfl), S9.out⟩
            case measure => simp [lenV]; omega
          · have AN : Hid (An w b A n c (.returned (.slice B bcc.length d)) w3) := ⟨⟨_, bcc, rfl, hlb, A3.out⟩⟩
            go_wp2_with fail
            go_ret
            exact AN.out
theorem ro_lat {w : World} {base : Nat} {v : Value} {acc : List Rul} (hn : acc.length ≤ 9223372036854775807) (h : RRow w base v acc) : LAt 6 ERul w (fun g => g < w.heap.size) v acc := by
  refine ⟨hn, ?_⟩
  rcases h.2 with ⟨h1, h2⟩ | ⟨g, cap, cur, h1, h2, h3, h4, h5, h6, h7⟩
  · exact ⟨none, 0, by rw [h1, h2], .inl h2⟩
  · refine ⟨_, cap, h1, .inr ⟨g, 0, fun i j => (rrow (acc.getD i default)).toList.getD j default, rfl, (Array.getElem?_eq_some_iff.1 h3).1, h4, fun i hi j hj => ?_, fun i hi => ⟨rfl, rfl, rfl, rfl, rfl, rfl⟩⟩⟩
    have e : cur[i * 6 + j]? = some ((rrow (acc.getD i default)).toList.getD j default) := by
      have h8 : (cur.toList.take (acc.length * 6))[i * 6 + j]? = (rcells acc)[i * 6 + j]? := by rw [h7]
      rw [List.getElem?_take_of_lt (by omega), rcells_get hi hj] at h8
      simpa using h8
    rw [show 0 + i * 6 + j = i * 6 + j by omega]
    simp [World.cell?, h3, e]
theorem sz_sm {acc : List Rul} (h : ∀ r ∈ acc, Sm r) : szL szRul acc ≤ 21 * acc.length := by
  have : ∀ acc : List Rul, (∀ r ∈ acc, Sm r) → tot szRul acc ≤ 20 * acc.length := fun acc => by
    induction acc with
    | nil => intro _; simp [tot]
    | cons a l ih =>
      intro h
      have h1 := h a (by simp)
      have h2 := ih (fun r hr => h r (by simp [hr]))
      simp only [tot, List.length_cons, szRul, Sm] at h1 h2 ⊢
      omega
  have := this acc h
  unfold szL
  omega
/-- What a draw of rules leaves. -/
structure Sh (w : World) (e : Ending) (w' : World) : Prop where
  ex : ∃ v acc, e = .returned v ∧ acc.length ≤ 101 ∧ (∀ r ∈ acc, Sm r) ∧ LAt 6 ERul w' (fun g => g < w'.heap.size) v acc
  bel : Below w.heap.size w w'
theorem bel_of {w w1 w' : World} {A : Option Addr} {n c : Nat} (b : Below w.heap.size w w1) (hs : w.heap.size < w1.heap.size) (l : Lft w1 w' w.heap.size A n c) : Below w.heap.size w w' :=
  ⟨l.grown.os.trans b.os, l.grown.tape.trans b.tape, l.grown.output.trans b.output, Nat.le_trans b.size l.grown.size, fun k hk => (l.grown.block k (by omega) (by simp; omega)).trans (b.block k hk)⟩
set_option maxHeartbeats 1600000 in
theorem show_any (A : Option Addr) (n c : Nat) (w : World) (hn : n ≤ 1048576) (hb : Bytes w w.heap.size A n c) :
    Calls Try.prog 6 #[.slice A n c] w fun e w' => Sh w e w' := by
  have HB := Seg.hid hb
  clear hb
  go_enter Try.func6, Try.ntmps6
  go_wp2_with fail
  refine (Draw.new_any A n c w hn HB.out).mono ?_
  rintro e w1 ⟨h, rfl, hw1⟩
  have C1 : Hid (Cur w1 w.heap.size A n c) := by subst hw1; exact Draw.cur_new hn HB.out h _
  have B1 : Hid (Below w.heap.size w w1) := by subst hw1; exact below1 _ _
  clear hw1
  go_wp2_with fail
  refine (DrawB.size_any A n c 8 w1 hn (by decide) (by decide)).mono ?_
  rintro e w2 ⟨⟨x, x0, x1, rfl⟩, rfl⟩
  go_wp2_with fail
  refine (rules_any w.heap.size A n c x w1 C1.out (by omega) (by omega)).mono ?_
  rintro e w3 ⟨v, acc, rfl, hl, L3⟩
  have AN : Hid (Sh w (.returned v) w3) := ⟨⟨v, acc, rfl, hl, L3.sm, ro_lat (by omega) L3.own⟩, bel_of B1.out C1.out.lt L3.lft⟩
  clear L3
  go_wp2_with fail
  go_ret
  exact AN.out
end Go.Proofs.Ytoaobifhiddpkaa.DrRs
