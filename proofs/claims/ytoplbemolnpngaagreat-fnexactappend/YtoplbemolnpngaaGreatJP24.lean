/- Joined Segments, on plain data; The end of an Epoch, on plain data; Append, on plain data. -/
import Derived.Test.YtoplbemolnpngaaGreatJP11
import Derived.Test.YtoplbemolnpngaaGreatJP23
namespace Go.Proofs.YtoplbemolnpngaaGreat.JoP
set_option maxRecDepth 8000
open Recs SegW LogW BfP Zs
set_option linter.unusedVariables false
def lastS (us : List Sg) : Sg := us.getD (us.length - 1) default
/-- One Segment more: behind the others, or its Batches behind the last one's. -/
def add (roll : Int) (us : List Sg) (s : Sg) : List Sg :=
  if us.length = 0 ∨ roll < (sizes (lastS us).bats : Int) + (sizes s.bats : Int) then us ++ [s] else us.set (us.length - 1) ⟨(lastS us).base, (lastS us).bats ++ s.bats⟩
def joinS (roll : Int) (ss : List Sg) : List Sg := ss.foldl (add roll) []
def join (l : Lg) : Lg := if LgP.logOk l = true then ⟨l.start, l.next, l.roll, joinS l.roll l.segs⟩ else ⟨0, 0, 0, []⟩
theorem join_take {roll : Int} {ss : List Sg} {k : Nat} (h : k < ss.length) : joinS roll (ss.take (k + 1)) = add roll (joinS roll (ss.take k)) (ss.getD k default) := by
  unfold joinS
  rw [takeOne h, List.foldl_append]
  rfl
theorem lastS_push {us : List Sg} {s : Sg} : lastS (us ++ [s]) = s := by simp [lastS]
theorem lastS_set {us : List Sg} {s : Sg} (h : us.length ≠ 0) : lastS (us.set (us.length - 1) s) = s := by
  unfold lastS
  rw [List.length_set, List.getD_eq_getElem?_getD, List.getElem?_set_self (by omega)]
  rfl
theorem flat_set {us : List Sg} {bs : List Bat} {b : Int} : ∀ (us : List Sg), us.length ≠ 0 → flatB (us.set (us.length - 1) ⟨b, (lastS us).bats ++ bs⟩) = flatB us ++ bs
  | [], h => absurd rfl h
  | [s], _ => by simp [flatB, lastS]
  | s :: t :: r, _ => by
    have ih := flat_set (us := us) (bs := bs) (b := b) (t :: r) (by simp)
    have e1 : (s :: t :: r).length - 1 = ((t :: r).length - 1) + 1 := by simp
    have e2 : lastS (s :: t :: r) = lastS (t :: r) := by
      unfold lastS
      rw [e1, List.getD_cons_succ]
    rw [e1, e2, List.set_cons_succ]
    simp only [flatB] at ih ⊢
    rw [ih]
    simp [List.append_assoc]
theorem add_flat {roll : Int} {us : List Sg} {s : Sg} : flatB (add roll us s) = flatB us ++ s.bats := by
  unfold add
  split
  · rw [flatB_app]
    simp [flatB]
  · rename_i h
    exact flat_set (us := us) us (fun e => h (.inl e))
theorem joinS_flat {roll : Int} (ss : List Sg) : ∀ k, k ≤ ss.length → flatB (joinS roll (ss.take k)) = flatB (ss.take k)
  | 0, _ => by simp [joinS]
  | k + 1, h => by rw [join_take (by omega), add_flat, joinS_flat ss k (by omega), flatB_take (by omega)]
theorem add_len {roll : Int} {us : List Sg} {s : Sg} : us.length ≤ (add roll us s).length ∧ (add roll us s).length ≤ us.length + 1 ∧ 0 < (add roll us s).length := by
  unfold add
  split
  · simp
  · rename_i h
    rw [List.length_set]
    omega
theorem joinS_len {roll : Int} (ss : List Sg) : ∀ k, k ≤ ss.length → (joinS roll (ss.take k)).length ≤ k ∧ ((joinS roll (ss.take k)).length = 0 ↔ k = 0)
  | 0, _ => by simp [joinS]
  | k + 1, h => by
    have := joinS_len (roll := roll) ss k (by omega)
    rw [join_take (by omega)]
    have := add_len (roll := roll) (us := joinS roll (ss.take k)) (s := ss.getD k default)
    omega
theorem flat_last : ∀ (us : List Sg), sizes (lastS us).bats ≤ sizes (flatB us) ∧ (lastS us).bats.length ≤ (flatB us).length
  | [] => ⟨Nat.le_refl _, Nat.le_refl _⟩
  | [s] => by simp [lastS, flatB]
  | s :: t :: r => by
    have ih := flat_last (t :: r)
    have e2 : lastS (s :: t :: r) = lastS (t :: r) := by
      unfold lastS
      rw [show (s :: t :: r).length - 1 = ((t :: r).length - 1) + 1 by simp, List.getD_cons_succ]
    rw [e2, flatB, sizes_app, List.length_append]
    omega
theorem last_mem : ∀ (us : List Sg) (i : Nat), i < (lastS us).bats.length → (lastS us).bats.getD i default ∈ flatB us
  | [], i, h => absurd h (Nat.not_lt_zero i)
  | [s], i, h => by
    have h' : i < s.bats.length := h
    show s.bats.getD i default ∈ s.bats ++ []
    rw [List.append_nil, List.getD_eq_getElem?_getD, List.getElem?_eq_getElem h']
    exact List.getElem_mem h'
  | s :: t :: r, i, h => by
    have e2 : lastS (s :: t :: r) = lastS (t :: r) := by
      unfold lastS
      rw [show (s :: t :: r).length - 1 = ((t :: r).length - 1) + 1 by simp, List.getD_cons_succ]
    rw [e2] at h ⊢
    exact List.mem_append.2 (.inr (last_mem (t :: r) i h))
theorem sizes_all : ∀ (bs : List Bat), (∀ b ∈ bs, BOk.batOk b = true) → sizes bs ≤ bs.length * 100000
  | [], _ => by simp [sizes]
  | b :: t, h => by
    have := sizes_all t (fun y hy => h y (by simp [hy]))
    have := size_le (h b (by simp))
    simp only [sizes, List.length_cons, Nat.succ_mul]
    omega
theorem ok_flat : ∀ (ss : List Sg), (∀ i, i < ss.length → ∀ k, k < (ss.getD i default).bats.length → BOk.batOk ((ss.getD i default).bats.getD k default) = true) → ∀ b ∈ flatB ss, BOk.batOk b = true
  | [], _, b, hb => by simp [flatB] at hb
  | s :: t, h, b, hb => by
    simp only [flatB, List.mem_append] at hb
    rcases hb with hb | hb
    · obtain ⟨k, hk, rfl⟩ := List.getElem_of_mem hb
      have := h 0 (by simp) k (by simpa using hk)
      simpa [hk] using this
    · exact ok_flat t (fun i hi k hk => by have := h (i + 1) (by simpa using hi) k (by simpa using hk); simpa using this) b hb
theorem many_flat : ∀ ss : List Sg, (flatB ss).length = LgP.many ss
  | [] => rfl
  | s :: t => by simp only [flatB, List.length_append, many_flat t, LgP.many]
theorem ok_many {l : Lg} (h : LgP.logOk l = true) : (flatB l.segs).length ≤ 400 := by
  unfold LgP.logOk LgP.bounds LgP.counts LgP.stands at h
  simp only [Bool.and_eq_true, decide_eq_true_eq, LgP.inR] at h
  obtain ⟨⟨⟨a1, a2⟩, ⟨a3, a4⟩, a5⟩, ⟨a6, a7⟩, a8⟩ := h
  rw [many_flat]
  exact a7
theorem bnd {roll : Int} {ss : List Sg} {k : Nat} (hk : k < ss.length) (hok : ∀ i, i < ss.length → ∀ k, k < (ss.getD i default).bats.length → BOk.batOk ((ss.getD i default).bats.getD k default) = true) (hc : (flatB ss).length ≤ 400) :
    sizes (lastS (joinS roll (ss.take k))).bats ≤ 40000000 ∧ sizes (ss.getD k default).bats ≤ 40000000 ∧ (lastS (joinS roll (ss.take k))).bats.length + (ss.getD k default).bats.length ≤ 400 ∧ ∀ i, i < (lastS (joinS roll (ss.take k))).bats.length → BOk.batOk ((lastS (joinS roll (ss.take k))).bats.getD i default) = true := by
  have e1 : flatB ss = flatB (ss.take k) ++ ((ss.getD k default).bats ++ flatB (ss.drop (k + 1))) := by
    rw [← List.append_assoc, ← flatB_take hk, ← flatB_app, List.take_append_drop]
  have ok := ok_flat ss hok
  have h1 := flat_last (joinS roll (ss.take k))
  rw [joinS_flat ss k (by omega)] at h1
  have hl := congrArg List.length e1
  simp only [List.length_append] at hl
  have o1 : ∀ b ∈ flatB (ss.take k), BOk.batOk b = true := fun b hb => ok b (by rw [e1]; exact List.mem_append.2 (.inl hb))
  have o2 : ∀ b ∈ (ss.getD k default).bats, BOk.batOk b = true := fun b hb => ok b (by rw [e1]; exact List.mem_append.2 (.inr (List.mem_append.2 (.inl hb))))
  have z1 := sizes_all _ o1
  have z2 := sizes_all _ o2
  refine ⟨by omega, by omega, by omega, fun i hi => ?_⟩
  have : (lastS (joinS roll (ss.take k))).bats.getD i default ∈ flatB (joinS roll (ss.take k)) := last_mem _ i hi
  rw [joinS_flat ss k (by omega)] at this
  exact o1 _ this
end Go.Proofs.YtoplbemolnpngaaGreat.JoP
namespace Go.Proofs.YtoplbemolnpngaaGreat.EoP
set_option maxRecDepth 8000
open Recs SegW LogW SrP BfP
set_option linter.unusedVariables false
def endB (x : Int) : Int → Int → List Bat → Int × Int
  | f, n, [] => (f, n)
  | f, n, b :: t => if x < b.epoch then (f, b.base) else endB x b.epoch n t
def told (start : Int) (r : Int × Int) : Int × Int := if r.1 < 0 then (0, start) else r
def endF (l : Lg) (x : Int) : Int × Int := told l.start (endB x (-1) l.next (flatB l.segs))
def endOf (l : Lg) (x : Int) : Int × Int := if LgP.logOk l = true then endF l x else (0, 0)
/-- The Epoch of the last batch, f where there is none. -/
def lastE : Int → List Bat → Int
  | f, [] => f
  | f, b :: t => lastE b.epoch t
def sm (bs : List Bat) : Bool := decide (0 < bs.length)
theorem endB_app {x n : Int} : ∀ {a r : List Bat} {f : Int}, (∀ y ∈ a, ¬ x < y.epoch) → endB x f n (a ++ r) = endB x (lastE f a) n r
  | [], r, f, _ => rfl
  | y :: t, r, f, h => by
    show (if x < y.epoch then (f, y.base) else endB x y.epoch n (t ++ r)) = _
    rw [if_neg (h y (by simp)), endB_app (a := t) (fun z hz => h z (by simp [hz]))]
    rfl
theorem endB_stop {x n f : Int} {a r : List Bat} {y : Bat} (h : ∀ z ∈ a, ¬ x < z.epoch) (hy : x < y.epoch) : endB x f n (a ++ y :: r) = (lastE f a, y.base) := by
  rw [endB_app h]
  show (if x < y.epoch then (_, y.base) else _) = _
  rw [if_pos hy]
theorem endB_all {x n f : Int} {a : List Bat} (h : ∀ z ∈ a, ¬ x < z.epoch) : endB x f n a = (lastE f a, n) := by
  have := endB_app (x := x) (n := n) (r := []) (f := f) h
  rw [List.append_nil] at this
  rw [this]
  rfl
theorem lastE_app : ∀ {a : List Bat} {f : Int} {y : Bat}, lastE f (a ++ [y]) = y.epoch
  | [], f, y => rfl
  | z :: t, f, y => lastE_app (a := t)
theorem sm_app {a : List Bat} {y : Bat} : sm (a ++ [y]) = true := by simp [sm]
theorem epoch0 {b : Bat} (h : BOk.batOk b = true) : 0 ≤ b.epoch := by
  simp only [BOk.batOk, BOk.okB1, BOk.okB3, BOk.inR, Bool.and_eq_true, decide_eq_true_eq] at h
  omega
theorem lastE_some : ∀ {a : List Bat} {f g : Int}, 0 < a.length → lastE f a = lastE g a
  | [], _, _, h => by simp at h
  | z :: t, f, g, _ => rfl
theorem lastE_pos : ∀ {a : List Bat} {f : Int}, 0 ≤ f → (∀ y ∈ a, 0 ≤ y.epoch) → 0 ≤ lastE f a
  | [], f, h, _ => h
  | z :: t, f, h, hk => lastE_pos (a := t) (hk z (by simp)) (fun y hy => hk y (by simp [hy]))
theorem told_of {start e : Int} {a : List Bat} (h : ∀ y ∈ a, 0 ≤ y.epoch) : told start (lastE (-1) a, e) = if sm a = true then (lastE 0 a, e) else (0, start) := by
  by_cases ha : 0 < a.length
  · have := lastE_pos (a := a) (Int.le_refl 0) h
    rw [lastE_some (g := 0) ha, told, if_neg (by omega), if_pos (by simp [sm, ha])]
  · have : a = [] := by cases a with | nil => rfl | cons z t => simp at ha
    subst this
    rfl
theorem from_zero : ∀ {bs : List Bat}, (∀ b ∈ bs, BOk.batOk b = true) → fromB 0 bs = bs
  | [], _ => rfl
  | b :: t, h => by
    have hb := LgP.okLen (h b (by simp))
    unfold fromB
    rw [List.filter_cons_of_pos (by unfold pB bEnd; simp only [decide_eq_true_eq]; omega)]
    exact congrArg _ (from_zero (fun y hy => h y (by simp [hy])))
end Go.Proofs.YtoplbemolnpngaaGreat.EoP
namespace Go.Proofs.YtoplbemolnpngaaGreat.ApP
set_option maxRecDepth 8000
open Recs SegW LogW BfP Zs JoP EoP
set_option linter.unusedVariables false
def setB (b : Int) (t : Bat) : Bat := ⟨b, t.epoch, t.producer, t.turn, t.seq, t.flags, t.recs⟩
def fits (l : Lg) (t : Bat) : Bool := decide (l.segs.length ≠ 0) && (decide ((lastS l.segs).bats.length = 0) || decide ((sizes (lastS l.segs).bats : Int) + (size t : Int) ≤ l.roll))
def code (l : Lg) (t : Bat) : Int :=
  if BOk.batOk t = false ∨ 1000000000 < t.base + (t.recs.length : Int) then 2
  else if t.epoch < lastE 0 (flatB l.segs) then 3
  else if (flatB l.segs).length = 400 ∨ fits l t = false ∧ l.segs.length = 60 then 4
  else 0
def grow (l : Lg) (t : Bat) : List Sg := if fits l t = true then l.segs.set (l.segs.length - 1) ⟨(lastS l.segs).base, (lastS l.segs).bats ++ [t]⟩ else l.segs ++ [⟨t.base, [t]⟩]
def put (l : Lg) (t : Bat) : Lg × Int := if code l (setB l.next t) = 0 then (⟨l.start, l.next + (t.recs.length : Int), l.roll, grow l (setB l.next t)⟩, 0) else (l, code l (setB l.next t))
def appended (l : Lg) (t : Bat) : Lg × Int := if LgP.logOk l = true then put l t else (⟨0, 0, 0, []⟩, 1)
end Go.Proofs.YtoplbemolnpngaaGreat.ApP
