/- BatchOk of the program, part by part. -/
import Derived.Test.YtdhicmbfknagjaaBOkS
namespace Go.Proofs.Ytdhicmbfknagjaa.BOk
set_option maxRecDepth 8000
open Go.RowKit
open Recs
set_option linter.unusedVariables false

set_option maxHeartbeats 400000 in
theorem records_no (A : Option Addr) (n c : Nat) (w : World) (hn : Hid (inR (n : Int) 1 40 = false)) :
    Calls Try.prog 130 #[.slice A n c] w fun e w' => e = .returned (.bool false) ∧ Below w.heap.size w w' := by
  go_enter Try.func130, Try.ntmps130
  go_wp2_with (go_at_call 41; refine (within_r n 1 40 false hn.out _).mono ?_; rintro _ _ ⟨rfl, rfl⟩)
  go_ret
  exact ⟨rfl, Below.refl _ _⟩

structure TellsR (e : Ending) (n : Nat) (rs : List Rec) : Prop where
  tells : ∃ b, e = .returned (.bool b) ∧ ((b = false ∧ ∃ i, i < n ∧ ROk.okR (rs.getD i default) = false) ∨ (b = true ∧ ∀ i, i < n → ROk.okR (rs.getD i default) = true))

set_option maxHeartbeats 800000 in
theorem records_yes (A : Option Addr) (n c : Nat) (rs : List Rec) (H : Nat → Value) (lo b : Nat) (w : World) (hn : Hid (inR (n : Int) 1 40 = true)) (hl : Lies w A n c rs H lo b) :
    Calls Try.prog 130 #[.slice A n c] w fun e w' => TellsR e n rs ∧ Below w.heap.size w w' := by
  have rn : 1 ≤ (n : Int) ∧ (n : Int) ≤ 40 := by simpa [inR] using hn.out
  obtain ⟨g, o, rfl, hg, hcap, ha, hh, hbw⟩ := hl
  have HA := Seg.hid ha
  have HH := Seg.hid hh
  clear ha hh
  go_enter Try.func130, Try.ntmps130
  go_wp2_with (go_at_call 41; refine (within_r n 1 40 true hn.out _).mono ?_; rintro _ _ ⟨rfl, rfl⟩)
  go_loopw [11] (fun i wr => ∃ k : Nat, k ≤ n ∧ i = .int .i64 k ∧ Hid (Below w.heap.size w wr ∧ ∀ i, i < k → ROk.okR (rs.getD i default) = true)) (fun i _ => n - (intOf i).toNat)
  case atStart => exact ⟨0, Nat.zero_le _, rfl, Below.refl _ _, fun i hi => absurd hi (by omega)⟩
  case round =>
    obtain ⟨k, hk, rfl, HR⟩ := hrel
    have hbr : b ≤ wr.heap.size := Nat.le_trans hbw HR.out.1.size
    by_cases hlt : k < n
    · obtain ⟨c0, c1, c2, c3, c4, c5⟩ := RecsW.six (RecsW.six' HA.out HR.out.1 hg) k hlt
      have hH := HH.out k hlt
      obtain ⟨_, A0, k0, hHk, _⟩ := id hH
      have RA : Hid (RecAt wr lo b (.agg #[.int .i64 (rs.getD k default).time, .bool (rs.getD k default).keyed, .string (rs.getD k default).key, .bool (rs.getD k default).gone, .string (rs.getD k default).val, .slice A0 (rs.getD k default).heads.length k0]) (rs.getD k default)) := ⟨_, rfl, hHk ▸ hH.below (HR.out.1.mono hbw)⟩
      rw [hHk] at c5
      clear hH hHk
      have i0 : (0 : Int) ≤ (k : Int) := by omega
      have i1 : (k : Int) < (n : Int) := by omega
      generalize hrk : rs.getD k default = rk at c0 c1 c2 c3 c4 c5 RA
      have HK := Seg.hid hrk
      clear hrk
      go_wp2_with fail
      refine (ROk.impl_any _ rk (wr.alloc _) lo b (RA.out.below ((below1 wr _).mono hbr)) (by rw [hsz]; omega)).mono ?_
      rintro e w1 ⟨rfl, b1⟩
      have B1 := Seg.hid (chain HR.out.1 (chain (below1 wr _) b1))
      clear b1
      cases hok : ROk.okR rk with
      | false =>
        go_wp2
        go_ret
        exact ⟨⟨false, rfl, .inl ⟨rfl, k, hlt, by rw [HK.out]; exact hok⟩⟩, B1.out⟩
      | true =>
        go_wp2
        go_roundw
        case rel =>
          refine ⟨k + 1, by omega, by go_num, B1.out, fun i hi => ?_⟩
          by_cases he : i = k
          · subst he; rw [HK.out]; exact hok
          · exact HR.out.2 i (by omega)
        case measure => simp [intOf]; omega
    · obtain rfl : k = n := by omega
      go_wp2
      go_ret
      exact ⟨⟨true, rfl, .inr ⟨rfl, HR.out.2⟩⟩, HR.out.1⟩

set_option maxHeartbeats 800000 in
theorem place_any (bs ep pr tu sq fl : Int) (A : Option Addr) (n c : Nat) (w : World) (hn : (n : Int) ≤ 40) :
    Calls Try.prog 131 #[bv bs ep pr tu sq fl (.slice A n c)] w fun e w' => e = .returned (.bool (inR bs 0 (1000000001 - n) && inR ep 0 1000000)) ∧ Below w.heap.size w w' := by
  unfold bv
  go_enter Try.func131, Try.ntmps131
  cases p1 : inR bs 0 (1000000001 - n) <;> cases p2 : inR ep 0 1000000
  all_goals
    have P1 := Seg.hid p1; have P2 := Seg.hid p2
    clear p1 p2
    go_wp2_with (first | (go_at_call_of 41 (Value.int IntKind.i64 bs); refine (within_r bs 0 (1000000001 - n) _ P1.out _).mono ?_; rintro _ _ ⟨rfl, rfl⟩) | (go_at_call_of 41 (Value.int IntKind.i64 ep); refine (within_r ep 0 1000000 _ P2.out _).mono ?_; rintro _ _ ⟨rfl, rfl⟩))
    go_ret
    exact ⟨rfl, below1 _ _⟩

def prB (pr tu sq : Int) (n : Nat) : Bool := if pr = -1 then (tu == 0) && (sq == 0) else inR pr 0 1000000000 && inR tu 0 1000 && inR sq 0 (1000000001 - n)
set_option maxHeartbeats 800000 in
theorem producer_any (bs ep pr tu sq fl : Int) (A : Option Addr) (n c : Nat) (w : World) (hn : (n : Int) ≤ 40) :
    Calls Try.prog 132 #[bv bs ep pr tu sq fl (.slice A n c)] w fun e w' => e = .returned (.bool (prB pr tu sq n)) ∧ Below w.heap.size w w' := by
  unfold bv
  unfold prB
  by_cases h1 : pr = -1
  · subst h1
    rw [if_pos rfl]
    cases ht : (tu == 0) <;> cases hs : (sq == 0)
    all_goals
      go_enter Try.func132, Try.ntmps132
      go_wp2
      go_ret
      exact ⟨rfl, below1 _ _⟩
  · rw [if_neg h1]
    have h1' : (pr == -1) = false := by simpa using h1
    clear h1
    cases p1 : inR pr 0 1000000000 <;> cases p2 : inR tu 0 1000 <;> cases p3 : inR sq 0 (1000000001 - n)
    all_goals
      have P1 := Seg.hid p1; have P2 := Seg.hid p2; have P3 := Seg.hid p3
      clear p1 p2 p3
      go_enter Try.func132, Try.ntmps132
      go_wp2_with (first | (go_at_call_of 41 (Value.int IntKind.i64 pr); refine (within_r pr 0 1000000000 _ P1.out _).mono ?_; rintro _ _ ⟨rfl, rfl⟩) | (go_at_call_of 41 (Value.int IntKind.i64 tu); refine (within_r tu 0 1000 _ P2.out _).mono ?_; rintro _ _ ⟨rfl, rfl⟩) | (go_at_call_of 41 (Value.int IntKind.i64 sq); refine (within_r sq 0 (1000000001 - n) _ P3.out _).mono ?_; rintro _ _ ⟨rfl, rfl⟩))
      go_ret
      exact ⟨rfl, below1 _ _⟩

def markI (r : Rec) : Bool := (decide (r.key.toList = [99, 111, 109, 109, 105, 116]) || decide (r.key.toList = [97, 98, 111, 114, 116])) && !r.gone && decide (r.val.toList = []) && decide (r.heads = [])
set_option maxHeartbeats 800000 in
theorem marker_any (r : Rec) (A : Option Addr) (n c : Nat) (w : World) (hn : n = r.heads.length) :
    Calls Try.prog 140 #[recVal r (.slice A n c)] w fun e w' => e = .returned (.bool (markI r)) ∧ Below w.heap.size w w' := by
  subst hn
  unfold recVal
  go_enter Try.func140, Try.ntmps140
  go_wp2
  all_goals
    go_ret
    exact ⟨Seg.ret_bool (by go_light; simp_all [markI, len0]), below1 _ _⟩

def o2 (fl : Int) : Bool := bits BinOp.and IntKind.i64 fl 2 != 0
def m4 (fl : Int) : Bool := bits BinOp.and IntKind.i64 fl 4 != 0
def flB (pr fl : Int) (n : Nat) (r : Rec) : Bool := inR fl 0 7 && !(o2 fl && (pr == -1) || m4 fl && !o2 fl) && (!m4 fl || (decide (n = 1) && markI r))

set_option maxHeartbeats 1600000 in
theorem flags_any (bs ep pr tu sq fl : Int) (A : Option Addr) (n c : Nat) (rs : List Rec) (H : Nat → Value) (lo b : Nat) (w : World) (hn : 1 ≤ (n : Int) ∧ (n : Int) ≤ 40) (hl : Lies w A n c rs H lo b) :
    Calls Try.prog 133 #[bv bs ep pr tu sq fl (.slice A n c)] w fun e w' => e = .returned (.bool (flB pr fl n (rs.getD 0 default))) ∧ Below w.heap.size w w' := by
  unfold bv
  unfold flB
  obtain ⟨g, o, rfl, hg, hcap, ha, hh, hbw⟩ := hl
  obtain ⟨c0, c1, c2, c3, c4, c5⟩ := RecsW.six ha 0 (by omega)
  obtain ⟨_, A0, k0, hH0, _⟩ := id (hh 0 (by omega))
  simp only [hH0, Nat.zero_mul, Nat.add_zero] at c0 c1 c2 c3 c4 c5
  clear hH0 ha hh
  generalize rs.getD 0 default = r0 at *
  cases h6 : inR fl 0 7 with
  | false =>
    have H6 := Seg.hid h6
    clear h6
    go_enter Try.func133, Try.ntmps133
    go_wp2_with (go_at_call 41; refine (within_r fl 0 7 false H6.out _).mono ?_; rintro _ _ ⟨rfl, rfl⟩)
    go_ret
    exact ⟨rfl, below1 _ _⟩
  | true =>
  have H6 := Seg.hid h6
  clear h6
  cases ho : o2 fl <;> cases hm : m4 fl <;> cases hp : (pr == -1)
  all_goals
    unfold o2 at ho
    unfold m4 at hm
    go_enter Try.func133, Try.ntmps133
    go_wp2_with (go_at_call 41; refine (within_r fl 0 7 true H6.out _).mono ?_; rintro _ _ ⟨rfl, rfl⟩)
    go_region
    first
    | (go_wp2; go_ret; exact ⟨rfl, (below1 _ _).drew⟩)
    | skip
  by_cases h1 : n = 1
  · have hkk : ((n : Int) == 1) = true := by simp; omega
    have i1 : (0 : Int) < (n : Int) := by omega
    go_wp2_with fail
    refine (marker_any r0 A0 r0.heads.length k0 (w.alloc _).drew rfl).mono ?_
    rintro e w1 ⟨rfl, b1⟩
    have B1 : Hid (Below w.heap.size w w1) := chainD (below1 w _) b1
    clear b1
    go_wp2
    go_ret
    exact ⟨Seg.ret_bool (by simp [h1]), B1.out⟩
  · have hkk : ((n : Int) == 1) = false := by simp; omega
    go_wp2
    go_ret
    exact ⟨Seg.ret_bool (by simp [h1]), (below1 _ _).drew⟩
end Go.Proofs.Ytdhicmbfknagjaa.BOk
