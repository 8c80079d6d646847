/- BatchOk of the model: its loop over the Records and what follows. -/
import Derived.Test.YtdhicmbfknagjaaBOk
import Derived.Deep.Light
namespace Go.Proofs.Ytdhicmbfknagjaa.BOk
set_option maxRecDepth 8000
open Go.RowKit
open Recs
set_option linter.unusedVariables false

/-- The block that holds the batch which came in, and its list of Records. -/
def Par (wr : World) (p tp : Nat) (bs ep pr tu sq fl : Int) (u : Value) : Prop := wr.heap[p]? = some (.cells #[.int .i64 bs, .int .i64 ep, .int .i64 pr, .int .i64 tu, .int .i64 sq, .int .i64 fl, u] tp (0, 0))
theorem Par.cell5 {wr : World} {p tp : Nat} {bs ep pr tu sq fl : Int} {u : Value} (h : Par wr p tp bs ep pr tu sq fl u) : wr.cell? ⟨p, 5, none⟩ = some (.int .i64 fl) := cell_of_row wr p 5 _ tp (0, 0) h
theorem Par.cell6 {wr : World} {p tp : Nat} {bs ep pr tu sq fl : Int} {u : Value} (h : Par wr p tp bs ep pr tu sq fl u) : wr.cell? ⟨p, 6, none⟩ = some u := cell_of_row wr p 6 _ tp (0, 0) h
theorem Par.below {wr w' : World} {p tp b : Nat} {bs ep pr tu sq fl : Int} {u : Value} (h : Par wr p tp bs ep pr tu sq fl u) (hb : Below b wr w') (hp : p < b) : Par w' p tp bs ep pr tu sq fl u := (hb.block p hp).trans h

/-- The records lie there. -/
def Lies (w : World) (A : Option Addr) (n c : Nat) (rs : List Rec) (H : Nat → Value) (lo b : Nat) : Prop :=
  ∃ g o, A = some ⟨g, o, none⟩ ∧ g < w.heap.size ∧ n ≤ c ∧ (∀ i, i < n → ∀ j, j < 6 → w.cell? ⟨g, o + i * 6 + j, none⟩ = some (recCells rs H i j)) ∧ (∀ i, i < n → Heads w lo b (H i) (rs.getD i default).heads) ∧ b ≤ w.heap.size


def mark (r : Rec) : Bool := r.keyed && (decide (r.key.toList = [99, 111, 109, 109, 105, 116]) || decide (r.key.toList = [97, 98, 111, 114, 116])) && !r.gone && decide (r.val.toList = []) && decide (r.heads.length = 0)
theorem len0 (l : List Hd) : (((l.length : Nat) : Int) == 0) = decide (l = []) := by
  rw [Bool.eq_iff_iff]
  simp
structure Tells (e : Ending) (n : Nat) (fl : Int) (rs : List Rec) : Prop where
  tells : ∃ b, e = .returned (.bool b) ∧ ((b = false ∧ ∃ i, i < n ∧ ROk.okR (rs.getD i default) = false) ∨ ((∀ i, i < n → ROk.okR (rs.getD i default) = true) ∧ ((¬ 4 ≤ fl ∧ b = true) ∨ (4 ≤ fl ∧ b = (decide (n = 1) && mark (rs.getD 0 default))))))
theorem Tells.bad {n j : Nat} {fl : Int} {rs : List Rec} (h : j < n) (hb : ROk.okR (rs.getD j default) = false) : Tells (.returned (.bool false)) n fl rs := ⟨false, rfl, .inl ⟨rfl, j, h, hb⟩⟩
theorem Tells.plain {n : Nat} {fl : Int} {rs : List Rec} (h : ∀ i, i < n → ROk.okR (rs.getD i default) = true) (hf : ¬ 4 ≤ fl) : Tells (.returned (.bool true)) n fl rs := ⟨true, rfl, .inr ⟨h, .inl ⟨hf, rfl⟩⟩⟩
theorem Tells.mark {n : Nat} {fl : Int} {rs : List Rec} {b : Bool} (h : ∀ i, i < n → ROk.okR (rs.getD i default) = true) (hf : 4 ≤ fl) (hb : b = (decide (n = 1) && mark (rs.getD 0 default))) : Tells (.returned (.bool b)) n fl rs := ⟨b, rfl, .inr ⟨h, .inr ⟨hf, hb⟩⟩⟩

set_option maxRecDepth 6000 in
set_option maxHeartbeats 3200000 in
theorem yes3 (bs ep pr tu sq fl : Int) (A : Option Addr) (n c : Nat) (rs : List Rec) (H : Nat → Value) (lo b : Nat) (w : World) (h1 : Hid (inR bs 0 1000000000 = true)) (h2 : Hid (inR ep 0 1000000 = true)) (h3 : Hid (inR pr (-1) 1000000000 = true)) (h4 : Hid (inR tu 0 1000 = true)) (h5 : Hid (inR sq 0 1000000000 = true)) (h6 : Hid (inR fl 0 7 = true))
    (hw : Way pr tu sq fl) (hn : Hid (inR (n : Int) 1 40 = true)) (hb : ¬ 1000000000 < bs + n - 1) (hc : ¬ 1000000000 < sq + n - 1) (hl : Lies w A n c rs H lo b) :
    Calls Try.prog 72 #[bv bs ep pr tu sq fl (.slice A n c)] w fun e w' => Tells e n fl rs ∧ Below w.heap.size w w' := by
  unfold bv
  have r1 : 0 ≤ bs ∧ bs ≤ 1000000000 := by simpa [inR] using h1.out
  have r5 : 0 ≤ sq ∧ sq ≤ 1000000000 := by simpa [inR] using h5.out
  have rn : 1 ≤ (n : Int) ∧ (n : Int) ≤ 40 := by simpa [inR] using hn.out
  obtain ⟨g, o, rfl, hg, hcap, ha, hh, hbw⟩ := hl
  have HA := Seg.hid ha
  have HH := Seg.hid hh
  clear ha hh
  rcases hw with ⟨hp, hf⟩ | ⟨hp, hf, hq0⟩ | ⟨hp, ht, hs, hq, hf⟩
  all_goals
    try unfold q1 at hq
    try unfold q0 at hq0
    go_enter Try.func72, Try.ntmps72
    go_wp2_with (first | (go_at_call_of 35 (Value.int IntKind.i64 bs); refine (l1In_r bs 0 1000000000 true h1.out _).mono ?_; rintro _ _ ⟨rfl, rfl⟩) | (go_at_call_of 35 (Value.int IntKind.i64 ep); refine (l1In_r ep 0 1000000 true h2.out _).mono ?_; rintro _ _ ⟨rfl, rfl⟩) | (go_at_call_of 35 (Value.int IntKind.i64 pr); refine (l1In_r pr (-1) 1000000000 true h3.out _).mono ?_; rintro _ _ ⟨rfl, rfl⟩) | (go_at_call_of 35 (Value.int IntKind.i64 tu); refine (l1In_r tu 0 1000 true h4.out _).mono ?_; rintro _ _ ⟨rfl, rfl⟩) | (go_at_call_of 35 (Value.int IntKind.i64 sq); refine (l1In_r sq 0 1000000000 true h5.out _).mono ?_; rintro _ _ ⟨rfl, rfl⟩) | (go_at_call_of 35 (Value.int IntKind.i64 fl); refine (l1In_r fl 0 7 true h6.out _).mono ?_; rintro _ _ ⟨rfl, rfl⟩) | (go_at_call_of 35 (Value.int IntKind.i64 (n : Int)); refine (l1In_r n 1 40 true hn.out _).mono ?_; rintro _ _ ⟨rfl, rfl⟩))
    go_loopw [3] (fun i wr => ∃ k : Nat, k ≤ n ∧ i = .int .i64 k ∧ Hid (Par wr w.heap.size 118 bs ep pr tu sq fl (.slice (some ⟨g, o, none⟩) n c) ∧ Below w.heap.size w wr ∧ ∀ i, i < k → ROk.okR (rs.getD i default) = true)) (fun i _ => n - (intOf i).toNat)
    case atStart => exact ⟨0, Nat.zero_le _, rfl, heap_alloc_new _ _, below1 _ _, fun i hi => absurd hi (by omega)⟩
    case round =>
      obtain ⟨k, hk, rfl, HR⟩ := hrel
      have p6 := HR.out.1.cell6
      have p5 := HR.out.1.cell5
      have hbr : b ≤ wr.heap.size := Nat.le_trans hbw HR.out.2.1.size
      have hpl : w.heap.size < wr.heap.size := (Array.getElem?_eq_some_iff.1 HR.out.1).1
      by_cases hlt : k < n
      · obtain ⟨c0, c1, c2, c3, c4, c5⟩ := RecsW.six (RecsW.six' HA.out HR.out.2.1 hg) k hlt
        have RA : Hid (RecAt wr lo b (.agg #[.int .i64 (rs.getD k default).time, .bool (rs.getD k default).keyed, .string (rs.getD k default).key, .bool (rs.getD k default).gone, .string (rs.getD k default).val, H k]) (rs.getD k default)) := ⟨_, rfl, (HH.out k hlt).below (HR.out.2.1.mono hbw)⟩
        have i0 : (0 : Int) ≤ (k : Int) := by omega
        have i1 : (k : Int) < (n : Int) := by omega
        have HS : Hid (rs.getD k default = rs.getD k default) := rfl
        generalize hrk : rs.getD k default = rk at c0 c1 c2 c3 c4 c5 RA
        have HK := Seg.hid hrk
        clear hrk
        go_wp2_with fail
        refine (ROk.spec_any _ rk wr lo b RA.out hbr).mono ?_
        rintro e w1 ⟨rfl, b1⟩
        have B1 := Seg.hid (chain HR.out.2.1 b1)
        have P1 := Seg.hid (HR.out.1.below b1 hpl)
        clear b1
        cases hok : ROk.okR rk with
        | false =>
          go_wp2
          go_ret
          exact ⟨Tells.bad hlt (by rw [HK.out]; exact hok), B1.out⟩
        | true =>
          go_wp2
          go_roundw
          case rel =>
            refine ⟨k + 1, by omega, by go_num, P1.out, B1.out, fun i hi => ?_⟩
            by_cases he : i = k
            · subst he; rw [HK.out]; exact hok
            · exact HR.out.2.2 i (by omega)
          case measure => simp [intOf]; omega
      · obtain rfl : k = n := by omega
        obtain ⟨c0, c1, c2, c3, c4, c5⟩ := RecsW.six (RecsW.six' HA.out HR.out.2.1 hg) 0 (by omega)
        obtain ⟨_, A0, k0, hH0, _⟩ := id (HH.out 0 (by omega))
        have ALL := Seg.hid HR.out.2.2
        simp only [hH0, Nat.zero_mul, Nat.add_zero] at c0 c1 c2 c3 c4 c5
        clear hH0
        have i1 : (0 : Int) < (k : Int) := by omega
        by_cases hk1 : k = 1
        · go_wp2
          all_goals
            go_ret
            first
            | exact ⟨Tells.plain ALL.out (by omega), HR.out.2.1⟩
            | exact ⟨Tells.mark ALL.out (by omega) (by go_light; simp_all [mark, len0]), HR.out.2.1.alloc HR.out.2.1.size _⟩
        · have hkk : ((k : Int) == 1) = false := by simp; omega
          go_wp2
          all_goals
            go_ret
            first
            | exact ⟨Tells.plain ALL.out (by omega), HR.out.2.1⟩
            | exact ⟨Tells.mark ALL.out (by omega) (by simp [hk1]), HR.out.2.1.alloc HR.out.2.1.size _⟩
end Go.Proofs.Ytdhicmbfknagjaa.BOk
