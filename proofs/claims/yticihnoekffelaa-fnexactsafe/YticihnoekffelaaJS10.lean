/- BatchOk of the program, part by part; BatchOk of the model and of the program: one plain function of the batch; A right log, on plain data. -/
import Derived.Test.YticihnoekffelaaJS09
import Derived.Test.YticihnoekffelaaJS05
namespace Go.Proofs.Yticihnoekffelaa.BOk
set_option maxRecDepth 8000
open Go.RowKit
open Recs
set_option linter.unusedVariables false

set_option maxHeartbeats 400000 in
theorem records_no (A : Option Addr) (n c : Nat) (w : World) (hn : Hid (inR (n : Int) 1 40 = false)) :
    Calls Try.prog 81 #[.slice A n c] w fun e w' => e = .returned (.bool false) ∧ Below w.heap.size w w' := by
  go_enter Try.func81, Try.ntmps81
  go_wp2_with (go_at_call 27; refine (within_r n 1 40 false hn.out _).mono ?_; rintro _ _ ⟨rfl, rfl⟩)
  go_ret
  exact ⟨rfl, Below.refl _ _⟩

structure TellsR (e : Ending) (n : Nat) (rs : List Rec) : Prop where
  tells : ∃ b, e = .returned (.bool b) ∧ ((b = false ∧ ∃ i, i < n ∧ ROk.okR (rs.getD i default) = false) ∨ (b = true ∧ ∀ i, i < n → ROk.okR (rs.getD i default) = true))

set_option maxHeartbeats 800000 in
theorem records_yes (A : Option Addr) (n c : Nat) (rs : List Rec) (H : Nat → Value) (lo b : Nat) (w : World) (hn : Hid (inR (n : Int) 1 40 = true)) (hl : Lies w A n c rs H lo b) :
    Calls Try.prog 81 #[.slice A n c] w fun e w' => TellsR e n rs ∧ Below w.heap.size w w' := by
  have rn : 1 ≤ (n : Int) ∧ (n : Int) ≤ 40 := by simpa [inR] using hn.out
  obtain ⟨g, o, rfl, hg, hcap, ha, hh, hbw⟩ := hl
  have HA := Seg.hid ha
  have HH := Seg.hid hh
  clear ha hh
  go_enter Try.func81, Try.ntmps81
  go_wp2_with (go_at_call 27; refine (within_r n 1 40 true hn.out _).mono ?_; rintro _ _ ⟨rfl, rfl⟩)
  go_loopw [11] (fun i wr => ∃ k : Nat, k ≤ n ∧ i = .int .i64 k ∧ Hid (Below w.heap.size w wr ∧ ∀ i, i < k → ROk.okR (rs.getD i default) = true)) (fun i _ => n - (intOf i).toNat)
  case atStart => exact ⟨0, Nat.zero_le _, rfl, Below.refl _ _, fun i hi => absurd hi (by omega)⟩
  case round =>
    obtain ⟨k, hk, rfl, HR⟩ := hrel
    have hbr : b ≤ wr.heap.size := Nat.le_trans hbw HR.out.1.size
    by_cases hlt : k < n
    · obtain ⟨c0, c1, c2, c3, c4, c5⟩ := RecsW.six (RecsW.six' HA.out HR.out.1 hg) k hlt
      have hH := HH.out k hlt
      obtain ⟨_, A0, k0, hHk, _⟩ := id hH
      have RA : Hid (RecAt wr lo b (.agg #[.int .i64 (rs.getD k default).time, .bool (rs.getD k default).keyed, .string (rs.getD k default).key, .bool (rs.getD k default).gone, .string (rs.getD k default).val, .slice A0 (rs.getD k default).heads.length k0]) (rs.getD k default)) := ⟨_, rfl, hHk ▸ hH.below (HR.out.1.mono hbw)⟩
      rw [hHk] at c5
      clear hH hHk
      have i0 : (0 : Int) ≤ (k : Int) := by omega
      have i1 : (k : Int) < (n : Int) := by omega
      generalize hrk : rs.getD k default = rk at c0 c1 c2 c3 c4 c5 RA
      have HK := Seg.hid hrk
      clear hrk
      go_wp2_with fail
      refine (ROk.impl_any _ rk (wr.alloc _) lo b (RA.out.below ((below1 wr _).mono hbr)) (by rw [hsz]; omega)).mono ?_
      rintro e w1 ⟨rfl, b1⟩
      have B1 := Seg.hid (chain HR.out.1 (chain (below1 wr _) b1))
      clear b1
      cases hok : ROk.okR rk with
      | false =>
        go_wp2
        go_ret
        exact ⟨⟨false, rfl, .inl ⟨rfl, k, hlt, by rw [HK.out]; exact hok⟩⟩, B1.out⟩
      | true =>
        go_wp2
        go_roundw
        case rel =>
          refine ⟨k + 1, by omega, by go_num, B1.out, fun i hi => ?_⟩
          by_cases he : i = k
          · subst he; rw [HK.out]; exact hok
          · exact HR.out.2 i (by omega)
        case measure => simp [intOf]; omega
    · obtain rfl : k = n := by omega
      go_wp2
      go_ret
      exact ⟨⟨true, rfl, .inr ⟨rfl, HR.out.2⟩⟩, HR.out.1⟩

set_option maxHeartbeats 800000 in
theorem place_any (bs ep pr tu sq fl : Int) (A : Option Addr) (n c : Nat) (w : World) (hn : (n : Int) ≤ 40) :
    Calls Try.prog 82 #[bv bs ep pr tu sq fl (.slice A n c)] w fun e w' => e = .returned (.bool (inR bs 0 (1000000001 - n) && inR ep 0 1000000)) ∧ Below w.heap.size w w' := by
  unfold bv
  go_enter Try.func82, Try.ntmps82
  cases p1 : inR bs 0 (1000000001 - n) <;> cases p2 : inR ep 0 1000000
  all_goals
    have P1 := Seg.hid p1; have P2 := Seg.hid p2
    clear p1 p2
    go_wp2_with (first | (go_at_call_of 27 (Value.int IntKind.i64 bs); refine (within_r bs 0 (1000000001 - n) _ P1.out _).mono ?_; rintro _ _ ⟨rfl, rfl⟩) | (go_at_call_of 27 (Value.int IntKind.i64 ep); refine (within_r ep 0 1000000 _ P2.out _).mono ?_; rintro _ _ ⟨rfl, rfl⟩))
    go_ret
    exact ⟨rfl, below1 _ _⟩

def prB (pr tu sq : Int) (n : Nat) : Bool := if pr = -1 then (tu == 0) && (sq == 0) else inR pr 0 1000000000 && inR tu 0 1000 && inR sq 0 (1000000001 - n)
set_option maxHeartbeats 800000 in
theorem producer_any (bs ep pr tu sq fl : Int) (A : Option Addr) (n c : Nat) (w : World) (hn : (n : Int) ≤ 40) :
    Calls Try.prog 83 #[bv bs ep pr tu sq fl (.slice A n c)] w fun e w' => e = .returned (.bool (prB pr tu sq n)) ∧ Below w.heap.size w w' := by
  unfold bv
  unfold prB
  by_cases h1 : pr = -1
  · subst h1
    rw [if_pos rfl]
    cases ht : (tu == 0) <;> cases hs : (sq == 0)
    all_goals
      go_enter Try.func83, Try.ntmps83
      go_wp2
      go_ret
      exact ⟨rfl, below1 _ _⟩
  · rw [if_neg h1]
    have h1' : (pr == -1) = false := by simpa using h1
    clear h1
    cases p1 : inR pr 0 1000000000 <;> cases p2 : inR tu 0 1000 <;> cases p3 : inR sq 0 (1000000001 - n)
    all_goals
      have P1 := Seg.hid p1; have P2 := Seg.hid p2; have P3 := Seg.hid p3
      clear p1 p2 p3
      go_enter Try.func83, Try.ntmps83
      go_wp2_with (first | (go_at_call_of 27 (Value.int IntKind.i64 pr); refine (within_r pr 0 1000000000 _ P1.out _).mono ?_; rintro _ _ ⟨rfl, rfl⟩) | (go_at_call_of 27 (Value.int IntKind.i64 tu); refine (within_r tu 0 1000 _ P2.out _).mono ?_; rintro _ _ ⟨rfl, rfl⟩) | (go_at_call_of 27 (Value.int IntKind.i64 sq); refine (within_r sq 0 (1000000001 - n) _ P3.out _).mono ?_; rintro _ _ ⟨rfl, rfl⟩))
      go_ret
      exact ⟨rfl, below1 _ _⟩

def markI (r : Rec) : Bool := (decide (r.key.toList = [99, 111, 109, 109, 105, 116]) || decide (r.key.toList = [97, 98, 111, 114, 116])) && !r.gone && decide (r.val.toList = []) && decide (r.heads = [])
set_option maxHeartbeats 800000 in
theorem marker_any (r : Rec) (A : Option Addr) (n c : Nat) (w : World) (hn : n = r.heads.length) :
    Calls Try.prog 95 #[recVal r (.slice A n c)] w fun e w' => e = .returned (.bool (markI r)) ∧ Below w.heap.size w w' := by
  subst hn
  unfold recVal
  go_enter Try.func95, Try.ntmps95
  go_wp2
  all_goals
    go_ret
    exact ⟨Seg.ret_bool (by go_light; simp_all [markI, len0]), below1 _ _⟩

def o2 (fl : Int) : Bool := bits BinOp.and IntKind.i64 fl 2 != 0
def m4 (fl : Int) : Bool := bits BinOp.and IntKind.i64 fl 4 != 0
def flB (pr fl : Int) (n : Nat) (r : Rec) : Bool := inR fl 0 7 && !(o2 fl && (pr == -1) || m4 fl && !o2 fl) && (!m4 fl || (decide (n = 1) && markI r))

set_option maxHeartbeats 1600000 in
theorem flags_any (bs ep pr tu sq fl : Int) (A : Option Addr) (n c : Nat) (rs : List Rec) (H : Nat → Value) (lo b : Nat) (w : World) (hn : 1 ≤ (n : Int) ∧ (n : Int) ≤ 40) (hl : Lies w A n c rs H lo b) :
    Calls Try.prog 84 #[bv bs ep pr tu sq fl (.slice A n c)] w fun e w' => e = .returned (.bool (flB pr fl n (rs.getD 0 default))) ∧ Below w.heap.size w w' := by
  unfold bv
  unfold flB
  obtain ⟨g, o, rfl, hg, hcap, ha, hh, hbw⟩ := hl
  obtain ⟨c0, c1, c2, c3, c4, c5⟩ := RecsW.six ha 0 (by omega)
  obtain ⟨_, A0, k0, hH0, _⟩ := id (hh 0 (by omega))
  simp only [hH0, Nat.zero_mul, Nat.add_zero] at c0 c1 c2 c3 c4 c5
  clear hH0 ha hh
  generalize rs.getD 0 default = r0 at *
  cases h6 : inR fl 0 7 with
  | false =>
    have H6 := Seg.hid h6
    clear h6
    go_enter Try.func84, Try.ntmps84
    go_wp2_with (go_at_call 27; refine (within_r fl 0 7 false H6.out _).mono ?_; rintro _ _ ⟨rfl, rfl⟩)
    go_ret
    exact ⟨rfl, below1 _ _⟩
  | true =>
  have H6 := Seg.hid h6
  clear h6
  cases ho : o2 fl <;> cases hm : m4 fl <;> cases hp : (pr == -1)
  all_goals
    unfold o2 at ho
    unfold m4 at hm
    go_enter Try.func84, Try.ntmps84
    go_wp2_with (go_at_call 27; refine (within_r fl 0 7 true H6.out _).mono ?_; rintro _ _ ⟨rfl, rfl⟩)
    go_region
    first
    | (go_wp2; go_ret; exact ⟨rfl, (below1 _ _).drew⟩)
    | skip
  by_cases h1 : n = 1
  · have hkk : ((n : Int) == 1) = true := by simp; omega
    have i1 : (0 : Int) < (n : Int) := by omega
    go_wp2_with fail
    refine (marker_any r0 A0 r0.heads.length k0 (w.alloc _).drew rfl).mono ?_
    rintro e w1 ⟨rfl, b1⟩
    have B1 : Hid (Below w.heap.size w w1) := chainD (below1 w _) b1
    clear b1
    go_wp2
    go_ret
    exact ⟨Seg.ret_bool (by simp [h1]), B1.out⟩
  · have hkk : ((n : Int) == 1) = false := by simp; omega
    go_wp2
    go_ret
    exact ⟨Seg.ret_bool (by simp [h1]), (below1 _ _).drew⟩
end Go.Proofs.Yticihnoekffelaa.BOk
namespace Go.Proofs.Yticihnoekffelaa.BOk
set_option maxRecDepth 8000
open Go.RowKit
open Recs
set_option linter.unusedVariables false

def batOk (t : Bat) : Bool := okB1 t.base t.epoch t.producer t.turn t.seq t.flags && !bad2 t.producer t.turn t.seq t.flags && okB3 t.base t.seq t.recs.length && t.recs.all ROk.okR && (!decide (4 ≤ t.flags) || (decide (t.recs.length = 1) && mark (t.recs.getD 0 default)))

theorem all_of {rs : List Rec} (h : ∀ i, i < rs.length → ROk.okR (rs.getD i default) = true) : rs.all ROk.okR = true := by
  rw [List.all_eq_true]
  intro x hx
  obtain ⟨i, hi, rfl⟩ := List.getElem_of_mem hx
  have := h i hi
  simpa [hi] using this
theorem all_not {rs : List Rec} {i : Nat} (hi : i < rs.length) (h : ROk.okR (rs.getD i default) = false) : rs.all ROk.okR = false := by
  rw [List.all_eq_false]
  refine ⟨rs[i], List.getElem_mem hi, ?_⟩
  have : ROk.okR rs[i] = false := by simpa [hi] using h
  rw [this]; simp
theorem all_at {rs : List Rec} {i : Nat} (hi : i < rs.length) (h : rs.all ROk.okR = true) : ROk.okR (rs.getD i default) = true := by
  rw [List.all_eq_true] at h
  have := h rs[i] (List.getElem_mem hi)
  simpa [hi] using this
theorem lies_of {w : World} {lo b n c : Nat} {A : Option Addr} {rs : List Rec} {H : Nat → Value} (hb : b ≤ w.heap.size) (hn : 1 ≤ (n : Int)) (h : n = 0 ∨ ∃ g o, A = some ⟨g, o, none⟩ ∧ g < b ∧ n ≤ c ∧ (∀ i, i < n → ∀ j, j < 6 → w.cell? ⟨g, o + i * 6 + j, none⟩ = some (recCells rs H i j)) ∧ lo ≤ g)
    (hh : ∀ i, i < n → Heads w lo b (H i) (rs.getD i default).heads) : Lies w A n c rs H lo b := by
  obtain ⟨g, o, h1, h2, h3, h4, _⟩ := h.resolve_left (by omega)
  exact ⟨g, o, h1, by omega, h3, h4, hh, hb⟩

theorem spec_any (v : Value) (t : Bat) (w : World) (lo b : Nat) (hv : BatAt w lo b v t) (hb : b ≤ w.heap.size) :
    Calls Try.prog 51 #[v] w fun e w' => e = .returned (.bool (batOk t)) ∧ Below w.heap.size w w' := by
  obtain ⟨rv, rfl, H, ⟨hn, A, c, rfl, h⟩, hh⟩ := hv
  show Calls Try.prog 51 #[bv t.base t.epoch t.producer t.turn t.seq t.flags (.slice A t.recs.length c)] w _
  unfold batOk
  cases h1 : okB1 t.base t.epoch t.producer t.turn t.seq t.flags with
  | false => exact (no1 _ _ _ _ _ _ A _ c w h1).mono fun e w' h => h
  | true =>
  cases h2 : bad2 t.producer t.turn t.seq t.flags with
  | true => exact (no2 _ _ _ _ _ _ A _ c w h1 h2).mono fun e w' h => h
  | false =>
  have hw := way_of h1 h2
  cases h3 : okB3 t.base t.seq t.recs.length with
  | false => exact (no3 _ _ _ _ _ _ A _ c w h1 hw h3).mono fun e w' h => h
  | true =>
    obtain ⟨a1, a2, a3, a4, a5, a6⟩ := okB1_parts h1
    simp only [okB3, Bool.and_eq_true, decide_eq_true_eq] at h3
    have rn : 1 ≤ (t.recs.length : Int) ∧ (t.recs.length : Int) ≤ 40 := by simpa [inR] using h3.1.1
    refine (yes3 _ _ _ _ _ _ A _ c t.recs H lo b w a1 a2 a3 a4 a5 a6 hw h3.1.1 (by omega) (by omega) (lies_of hb rn.1 h hh)).mono fun e w' hq => ?_
    obtain ⟨⟨b', rfl, hq1⟩, hq2⟩ := hq
    refine ⟨?_, hq2⟩
    rcases hq1 with ⟨rfl, i, hi, hbad⟩ | ⟨hall, hq1⟩
    · rw [all_not hi hbad]; simp
    · rw [all_of hall]
      rcases hq1 with ⟨hf, rfl⟩ | ⟨hf, rfl⟩
      · simp [hf]
      · simp [hf]

theorem records_any (v : Value) (rs : List Rec) (w : World) (lo b : Nat) (hv : RecsAt w lo b v rs) (hb : b ≤ w.heap.size) :
    Calls Try.prog 81 #[v] w fun e w' => e = .returned (.bool (inR (rs.length : Int) 1 40 && rs.all ROk.okR)) ∧ Below w.heap.size w w' := by
  obtain ⟨H, ⟨hn, A, c, rfl, h⟩, hh⟩ := hv
  cases h1 : inR (rs.length : Int) 1 40 with
  | false => exact (records_no A _ c w h1).mono fun e w' h => h
  | true =>
    have rn : 1 ≤ (rs.length : Int) ∧ (rs.length : Int) ≤ 40 := by simpa [inR] using h1
    refine (records_yes A _ c rs H lo b w h1 (lies_of hb rn.1 h hh)).mono fun e w' hq => ?_
    obtain ⟨⟨b', rfl, hq1⟩, hq2⟩ := hq
    refine ⟨?_, hq2⟩
    rcases hq1 with ⟨rfl, i, hi, hbad⟩ | ⟨rfl, hall⟩
    · rw [all_not hi hbad]; rfl
    · rw [all_of hall]; rfl

def batI (t : Bat) : Bool := (inR (t.recs.length : Int) 1 40 && t.recs.all ROk.okR) && (inR t.base 0 (1000000001 - t.recs.length) && inR t.epoch 0 1000000) && prB t.producer t.turn t.seq t.recs.length && flB t.producer t.flags t.recs.length (t.recs.getD 0 default)

theorem flags8 (fl : Int) (h : inR fl 0 7 = true) : (fl = 0 ∨ fl = 1 ∨ fl = 2 ∨ fl = 3 ∨ fl = 4 ∨ fl = 5 ∨ fl = 6 ∨ fl = 7) := by
  have : 0 ≤ fl ∧ fl ≤ 7 := by simpa [inR] using h
  omega
theorem bitsAll (fl : Int) (h : inR fl 0 7 = true) : q1 fl = o2 fl ∧ q0 fl = !o2 fl ∧ m4 fl = decide (4 ≤ fl) := by
  rcases flags8 fl h with rfl | rfl | rfl | rfl | rfl | rfl | rfl | rfl <;> decide +kernel
theorem mark_same (r : Rec) (h : ROk.okR r = true) : markI r = mark r := by
  have h1 : r.keyed = true ∨ r.key.toList = [] := by
    have : ROk.ok1 r.keyed r.key r.gone r.val = true := by
      rw [ROk.okR_eq] at h
      simp only [Bool.and_eq_true] at h
      exact h.1.2
    simp only [ROk.ok1, Bool.and_eq_true, Bool.or_eq_true] at this
    exact this.1.imp id fun h => by simpa using h
  rw [Bool.eq_iff_iff]
  simp only [markI, mark, Bool.and_eq_true, Bool.or_eq_true, decide_eq_true_eq, List.length_eq_zero_iff]
  constructor
  · rintro ⟨⟨⟨hk, hg⟩, hv⟩, hh⟩
    refine ⟨⟨⟨⟨?_, hk⟩, hg⟩, hv⟩, hh⟩
    rcases h1 with h1 | h1
    · exact h1
    · rw [h1] at hk; simp at hk
  · rintro ⟨⟨⟨⟨_, hk⟩, hg⟩, hv⟩, hh⟩
    exact ⟨⟨⟨hk, hg⟩, hv⟩, hh⟩

theorem same (t : Bat) : batI t = batOk t := by
  cases h6 : inR t.flags 0 7 with
  | false => simp [batI, batOk, flB, okB1, h6]
  | true =>
  cases hA : t.recs.all ROk.okR with
  | false => simp [batI, batOk, hA]
  | true =>
  cases hN : inR (t.recs.length : Int) 1 40 with
  | false => simp [batI, batOk, okB3, hN]
  | true =>
  have rn : 1 ≤ (t.recs.length : Int) ∧ (t.recs.length : Int) ≤ 40 := by simpa [inR] using hN
  obtain ⟨e1, e2, e3⟩ := bitsAll _ h6
  have hm := mark_same _ (all_at (i := 0) (by omega) hA)
  simp only [batI, batOk, okB1, bad2, okB3, flB, prB, h6, hA, hN, e1, e2, e3, hm, Bool.true_and, Bool.and_true]
  generalize (!decide (4 ≤ t.flags) || decide (t.recs.length = 1) && mark (t.recs.getD 0 default)) = M
  generalize decide (4 ≤ t.flags) = F
  generalize o2 t.flags = O
  rw [Bool.eq_iff_iff]
  by_cases hp : t.producer = -1
  · have hp' : t.producer < 0 := by omega
    cases M <;> cases F <;> cases O <;> simp [inR, hp] <;> omega
  · by_cases hp' : t.producer < 0
    · cases M <;> cases F <;> cases O <;> simp [inR, hp, hp'] <;> omega
    · cases M <;> cases F <;> cases O <;> simp [inR, hp, hp'] <;> omega
end Go.Proofs.Yticihnoekffelaa.BOk
namespace Go.Proofs.Yticihnoekffelaa.LgP
set_option maxRecDepth 8000
open Recs SegW LogW
set_option linter.unusedVariables false
def inR (x lo hi : Int) : Bool := decide (lo ≤ x) && decide (x ≤ hi)
/-- Batches behind 'free' with no Epoch below 'ep': what is free behind them, and the last one's Epoch. -/
def bats (free ep : Int) : List Bat → Option (Int × Int)
  | [] => some (free, ep)
  | b :: t => if BOk.batOk b = true ∧ free ≤ b.base ∧ ep ≤ b.epoch then bats (b.base + b.recs.length) b.epoch t else none
def segs (free ep : Int) : List Sg → Option Int
  | [] => some free
  | s :: t => if free ≤ s.base ∧ (s.bats.length = 0 → t.length = 0) then
      match bats s.base ep s.bats with
      | none => none
      | some (f, e) => segs f e t
    else none
def many : List Sg → Nat
  | [] => 0
  | s :: t => s.bats.length + many t
def bounds (l : Lg) : Bool := inR l.next 0 1000000000 && (inR l.start 0 l.next && inR l.roll 1 20000)
def counts (l : List Sg) : Bool := decide (l.length ≤ 60) && decide (many l ≤ 400)
def stands (next : Int) : Option Int → Bool
  | none => false
  | some f => decide (f ≤ next)
def logOk (l : Lg) : Bool := bounds l && (counts l.segs && stands l.next (segs 0 0 l.segs))
theorem okLen {b : Bat} (h : BOk.batOk b = true) : 0 ≤ b.base ∧ b.base ≤ 1000000000 ∧ 1 ≤ (b.recs.length : Int) ∧ (b.recs.length : Int) ≤ 40 := by
  simp only [BOk.batOk, BOk.okB1, BOk.okB3, BOk.inR, Bool.and_eq_true, decide_eq_true_eq] at h
  omega
theorem drop_at {α : Type} [Inhabited α] {l : List α} {k : Nat} (h : k < l.length) : l.drop k = l.getD k default :: l.drop (k + 1) := by
  rw [List.drop_eq_getElem_cons h]
  simp [h]
theorem bats_le : ∀ (l : List Bat) (f e f' e' : Int), bats f e l = some (f', e') → f ≤ f'
  | [], f, e, f', e', h => by simp [bats] at h; omega
  | b :: t, f, e, f', e', h => by
    unfold bats at h
    split at h
    · rename_i hc
      have := okLen hc.1
      have := bats_le t _ _ _ _ h
      omega
    · cases h
theorem many_drop : ∀ (l : List Sg) (k : Nat), k < l.length → many (l.take (k + 1)) = many (l.take k) + (l.getD k default).bats.length
  | [], k, h => by simp at h
  | s :: t, 0, h => by simp [many]
  | s :: t, k + 1, h => by
    have := many_drop t k (by simpa using h)
    simp only [List.take_succ_cons, many, List.getD_cons_succ]
    omega
end Go.Proofs.Yticihnoekffelaa.LgP
