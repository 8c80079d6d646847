/- A right log, on plain data; What Retain keeps, on plain data. -/
import Derived.Test.YtdcbgkcnidbakaaJR26
import Derived.Test.YtdcbgkcnidbakaaJR16
import Derived.Test.YtdcbgkcnidbakaaJR25
namespace Go.Proofs.Ytdcbgkcnidbakaa.LgP
set_option maxRecDepth 8000
open Recs SegW LogW
set_option linter.unusedVariables false
def inR (x lo hi : Int) : Bool := decide (lo ≤ x) && decide (x ≤ hi)
/-- Batches behind 'free' with no Epoch below 'ep': what is free behind them, and the last one's Epoch. -/
def bats (free ep : Int) : List Bat → Option (Int × Int)
  | [] => some (free, ep)
  | b :: t => if BOk.batOk b = true ∧ free ≤ b.base ∧ ep ≤ b.epoch then bats (b.base + b.recs.length) b.epoch t else none
def segs (free ep : Int) : List Sg → Option Int
  | [] => some free
  | s :: t => if free ≤ s.base ∧ (s.bats.length = 0 → t.length = 0) then
      match bats s.base ep s.bats with
      | none => none
      | some (f, e) => segs f e t
    else none
def many : List Sg → Nat
  | [] => 0
  | s :: t => s.bats.length + many t
def bounds (l : Lg) : Bool := inR l.next 0 1000000000 && (inR l.start 0 l.next && inR l.roll 1 20000)
def counts (l : List Sg) : Bool := decide (l.length ≤ 60) && decide (many l ≤ 400)
def stands (next : Int) : Option Int → Bool
  | none => false
  | some f => decide (f ≤ next)
def logOk (l : Lg) : Bool := bounds l && (counts l.segs && stands l.next (segs 0 0 l.segs))
theorem okLen {b : Bat} (h : BOk.batOk b = true) : 0 ≤ b.base ∧ b.base ≤ 1000000000 ∧ 1 ≤ (b.recs.length : Int) ∧ (b.recs.length : Int) ≤ 40 := by
  simp only [BOk.batOk, BOk.okB1, BOk.okB3, BOk.inR, Bool.and_eq_true, decide_eq_true_eq] at h
  omega
theorem drop_at {α : Type} [Inhabited α] {l : List α} {k : Nat} (h : k < l.length) : l.drop k = l.getD k default :: l.drop (k + 1) := by
  rw [List.drop_eq_getElem_cons h]
  simp [h]
theorem bats_le : ∀ (l : List Bat) (f e f' e' : Int), bats f e l = some (f', e') → f ≤ f'
  | [], f, e, f', e', h => by simp [bats] at h; omega
  | b :: t, f, e, f', e', h => by
    unfold bats at h
    split at h
    · rename_i hc
      have := okLen hc.1
      have := bats_le t _ _ _ _ h
      omega
    · cases h
theorem many_drop : ∀ (l : List Sg) (k : Nat), k < l.length → many (l.take (k + 1)) = many (l.take k) + (l.getD k default).bats.length
  | [], k, h => by simp at h
  | s :: t, 0, h => by simp [many]
  | s :: t, k + 1, h => by
    have := many_drop t k (by simpa using h)
    simp only [List.take_succ_cons, many, List.getD_cons_succ]
    omega
end Go.Proofs.Ytdcbgkcnidbakaa.LgP
namespace Go.Proofs.Ytdcbgkcnidbakaa.ReP
set_option maxRecDepth 8000
open Recs SegW LogW Zs
open LgP (logOk)
set_option linter.unusedVariables false
def oldR (time : Int) (r : Rec) : Bool := decide (r.time < time)
def oldB (time : Int) (b : Bat) : Bool := b.recs.all (oldR time)
def old (time : Int) (bs : List Bat) : Bool := bs.all (oldB time)
def tsz : List Sg → Nat
  | [] => 0
  | s :: t => sizes s.bats + tsz t
def stay (bytes time : Int) (ss : List Sg) (i : Nat) : Bool := decide ((tsz (ss.drop (i + 1)) : Int) < bytes) && !(old time (ss.getD i default).bats)
def gone (bytes time : Int) : List Sg → Nat
  | [] => 0
  | s :: t => if t.length = 0 then 0 else if (decide ((tsz t : Int) < bytes) && !(old time s.bats)) = true then 0 else 1 + gone bytes time t
def baseAt (ss : List Sg) (i : Nat) : Int := (ss.getD i default).base
def newStart (l : Lg) (g : Nat) : Int := if g = 0 then l.start else max l.start (baseAt l.segs g)
def retain (l : Lg) (bytes time : Int) : Lg × Bool := if (logOk l && decide (0 ≤ bytes)) = true then (⟨newStart l (gone bytes time l.segs), l.next, l.roll, l.segs.drop (gone bytes time l.segs)⟩, true) else (⟨0, 0, 0, []⟩, false)
theorem tsz_app : ∀ a b : List Sg, tsz (a ++ b) = tsz a + tsz b
  | [], b => by simp [tsz]
  | s :: t, b => by simp only [List.cons_append, tsz, tsz_app t b]; omega
theorem tsz_take {ss : List Sg} {i : Nat} (h : i < ss.length) : tsz (ss.take (i + 1)) = tsz (ss.take i) + sizes (ss.getD i default).bats := by
  rw [take_one h, tsz_app]; simp [tsz]
theorem tsz_parts (ss : List Sg) (i : Nat) : tsz ss = tsz (ss.take i) + tsz (ss.drop i) := by
  rw [← tsz_app, List.take_append_drop]
theorem tsz_drop {ss : List Sg} {i : Nat} (h : i < ss.length) : tsz (ss.drop i) = sizes (ss.getD i default).bats + tsz (ss.drop (i + 1)) := by
  rw [LgP.drop_at h]; rfl
theorem gone_step {bytes time : Int} {ss : List Sg} {i : Nat} (h : i + 1 < ss.length) : gone bytes time (ss.drop i) = if stay bytes time ss i = true then 0 else 1 + gone bytes time (ss.drop (i + 1)) := by
  rw [LgP.drop_at (l := ss) (k := i) (by omega)]
  conv => lhs; unfold gone
  rw [if_neg (by rw [List.length_drop]; omega)]
  rfl
theorem gone_last {bytes time : Int} {ss : List Sg} {i : Nat} (h : ss.length ≤ i + 1) : gone bytes time (ss.drop i) = 0 := by
  by_cases h2 : i < ss.length
  · rw [LgP.drop_at (l := ss) (k := i) h2, List.drop_eq_nil_of_le h]
    rfl
  · rw [List.drop_eq_nil_of_le (by omega)]
    rfl
theorem gone_walk {bytes time : Int} {ss : List Sg} : ∀ i, i < ss.length ∨ i = 0 → (∀ k, k < i → stay bytes time ss k = false) → gone bytes time ss = i + gone bytes time (ss.drop i)
  | 0, _, _ => by simp
  | i + 1, hi, h => by
    have h1 := gone_walk i (.inl (by omega)) (fun k hk => h k (by omega))
    rw [h1, gone_step (by omega), if_neg (by rw [h i (by omega)]; simp)]
    omega
theorem gone_found {bytes time : Int} {ss : List Sg} {i : Nat} (h1 : i + 1 < ss.length) (h : ∀ k, k < i → stay bytes time ss k = false) (hs : stay bytes time ss i = true) : gone bytes time ss = i := by
  rw [gone_walk i (.inl (by omega)) h, gone_step h1, if_pos hs]; omega
theorem gone_end {bytes time : Int} {ss : List Sg} (h : ∀ k, k + 1 < ss.length → stay bytes time ss k = false) : gone bytes time ss = ss.length - 1 := by
  by_cases hz : ss.length = 0
  · rw [List.length_eq_zero_iff.1 hz]; rfl
  rw [gone_walk (ss.length - 1) (.inl (by omega)) (fun k hk => h k (by omega)), gone_last (by omega)]; omega
theorem gone_lt (bytes time : Int) : ∀ ss : List Sg, gone bytes time ss < ss.length ∨ ss.length = 0
  | [] => .inr rfl
  | s :: t => by
    left
    unfold gone
    split
    · simp
    · split
      · simp
      · have := gone_lt bytes time t
        simp only [List.length_cons]
        omega
theorem gone_le (bytes time : Int) : ∀ ss : List Sg, gone bytes time ss ≤ ss.length
  | [] => Nat.le_refl _
  | s :: t => by
    rcases gone_lt bytes time (s :: t) with h | h
    · omega
    · simp at h
theorem base_mono : ∀ (ss : List Sg) (f e f' : Int), LgP.segs f e ss = some f' → ∀ i, i < ss.length → f ≤ baseAt ss i
  | [], _, _, _, _, i, hi => by simp at hi
  | s :: t, f, e, f', h, i, hi => by
    unfold LgP.segs at h
    split at h
    · rename_i hc
      cases hb : LgP.bats s.base e s.bats with
      | none => rw [hb] at h; cases h
      | some p =>
        rw [hb] at h
        have hle := LgP.bats_le _ _ _ _ _ (show LgP.bats s.base e s.bats = some (p.1, p.2) from hb)
        match i with
        | 0 => exact hc.1
        | i + 1 =>
          have := base_mono t p.1 p.2 f' h i (by simpa using hi)
          unfold baseAt at this ⊢
          rw [List.getD_cons_succ]
          have := hc.1
          omega
    · cases h
theorem base_up : ∀ (ss : List Sg) (f e f' : Int), LgP.segs f e ss = some f' → ∀ i, i + 1 < ss.length → baseAt ss i ≤ baseAt ss (i + 1)
  | [], _, _, _, _, i, hi => by simp at hi
  | s :: t, f, e, f', h, i, hi => by
    unfold LgP.segs at h
    split at h
    · rename_i hc
      cases hb : LgP.bats s.base e s.bats with
      | none => rw [hb] at h; cases h
      | some p =>
        rw [hb] at h
        have hle := LgP.bats_le _ _ _ _ _ (show LgP.bats s.base e s.bats = some (p.1, p.2) from hb)
        match i with
        | 0 =>
          have := base_mono t p.1 p.2 f' h 0 (by simpa using hi)
          unfold baseAt at this ⊢
          rw [List.getD_cons_succ, List.getD_cons_zero]
          omega
        | i + 1 =>
          have := base_up t p.1 p.2 f' h i (by simpa using hi)
          unfold baseAt at this ⊢
          rw [List.getD_cons_succ, List.getD_cons_succ]
          exact this
    · cases h
end Go.Proofs.Ytdcbgkcnidbakaa.ReP
