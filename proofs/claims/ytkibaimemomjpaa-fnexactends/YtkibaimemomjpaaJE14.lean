/- Lists of Coming: what the law's helpers answer; Ends, plain: arrivals come one after the other, behind marks. -/
import Derived.Test.YtkibaimemomjpaaJE13
namespace Go.Proofs.Ytkibaimemomjpaa.Ls
set_option maxRecDepth 8000
open Go.RowKit
open Recs
set_option linter.unusedVariables false
theorem eqComingS_none (A A' : Option Addr) (c c' : Nat) (w : World) :
    Calls Try.prog 23 #[.slice A 0 c, .slice A' 0 c'] w fun e w' => e = .returned (.bool true) ∧ Below w.heap.size w w' := by
  go_enter Try.func23, Try.ntmps23
  go_wp2
  go_loop [5] (fun i => i = .int .i64 0) (fun _ => 0)
  case atStart => rfl
  case round =>
    subst hrel
    go_wp2
    go_ret
    exact ⟨rfl, Below.refl _ _⟩
set_option maxHeartbeats 1600000 in
theorem eqComingS_core (g o g' o' n c c' : Nat) (us : List Cmg) (F F' : Nat → Nat → Value) (w : World) (S S' : Nat → Prop) (hn : n ≤ 9223372036854775807) (hc : n ≤ c) (hc' : n ≤ c') (hg : g < w.heap.size) (hg' : g' < w.heap.size) (hS : ∀ g, S g → g < w.heap.size) (hS' : ∀ g, S' g → g < w.heap.size)
    (he : ∀ i, i < n → ECmg w S (F i) (us.getD i default)) (he' : ∀ i, i < n → ECmg w S' (F' i) (us.getD i default))
    (ha : ∀ i, i < n → ∀ j, j < 5 → w.cell? ⟨g, o + i * 5 + j, none⟩ = some (F i j)) (ha' : ∀ i, i < n → ∀ j, j < 5 → w.cell? ⟨g', o' + i * 5 + j, none⟩ = some (F' i j)) :
    Calls Try.prog 23 #[.slice (some ⟨g, o, none⟩) n c, .slice (some ⟨g', o', none⟩) n c'] w fun e w' => e = .returned (.bool true) ∧ Below w.heap.size w w' := by
  have HA := Seg.hid ha; have HA' := Seg.hid ha'; have HH := Seg.hid he; have HH' := Seg.hid he'
  clear ha ha' he he'
  go_enter Try.func23, Try.ntmps23
  go_wp2
  go_loopw [5] (fun i wr => ∃ (k : Nat), k ≤ n ∧ i = .int .i64 k ∧ Hid (Below w.heap.size w wr)) (fun i _ => n - (intOf i).toNat)
  case atStart => exact ⟨0, Nat.zero_le _, rfl, Below.refl _ _⟩
  case round =>
    obtain ⟨k, hk, rfl, HB⟩ := hrel
    by_cases hlt2 : k < n
    · have CL := cells_later HA.out HB.out hg
      have CL' := cells_later HA'.out HB.out hg'
      have c0 : wr.cell? ⟨g, o + k * 5, none⟩ = some (F k 0) := CL k ‹k < n› 0 (by omega)
      have c1 : wr.cell? ⟨g, o + k * 5 + 1, none⟩ = some (F k 1) := CL k ‹k < n› 1 (by omega)
      have c2 : wr.cell? ⟨g, o + k * 5 + 2, none⟩ = some (F k 2) := CL k ‹k < n› 2 (by omega)
      have c3 : wr.cell? ⟨g, o + k * 5 + 3, none⟩ = some (F k 3) := CL k ‹k < n› 3 (by omega)
      have c4 : wr.cell? ⟨g, o + k * 5 + 4, none⟩ = some (F k 4) := CL k ‹k < n› 4 (by omega)
      have d0 : wr.cell? ⟨g', o' + k * 5, none⟩ = some (F' k 0) := CL' k ‹k < n› 0 (by omega)
      have d1 : wr.cell? ⟨g', o' + k * 5 + 1, none⟩ = some (F' k 1) := CL' k ‹k < n› 1 (by omega)
      have d2 : wr.cell? ⟨g', o' + k * 5 + 2, none⟩ = some (F' k 2) := CL' k ‹k < n› 2 (by omega)
      have d3 : wr.cell? ⟨g', o' + k * 5 + 3, none⟩ = some (F' k 3) := CL' k ‹k < n› 3 (by omega)
      have d4 : wr.cell? ⟨g', o' + k * 5 + 4, none⟩ = some (F' k 4) := CL' k ‹k < n› 4 (by omega)
      clear CL CL'
      have RA : Hid (CmgAt wr.drew S (.agg (arrCmg (F k))) (us.getD k default)) := ⟨_, rfl, keepsCmg _ _ _ _ _ _ (HH.out k hlt2) (fun g hg => HB.out.drew.block g (hS g hg)) (fun _ _ => rfl)⟩
      have RB : Hid (CmgAt wr.drew S' (.agg (arrCmg (F' k))) (us.getD k default)) := ⟨_, rfl, keepsCmg _ _ _ _ _ _ (HH'.out k hlt2) (fun g hg => HB.out.drew.block g (hS' g hg)) (fun _ _ => rfl)⟩
      have hbr : Hid (∀ g, S g → g < wr.drew.heap.size) := fun g hg => Nat.lt_of_lt_of_le (hS g hg) HB.out.size
      have hbr' : Hid (∀ g, S' g → g < wr.drew.heap.size) := fun g hg => Nat.lt_of_lt_of_le (hS' g hg) HB.out.size
      have h0 : (0 : Int) ≤ (k : Int) := by omega
      have h1 : (k : Int) < (n : Int) := by omega
      generalize us.getD k default = uk at *
      go_wp2_with fail
      go_region_with (go_at_call 64; refine (eqComing_any _ _ uk wr.drew S S' RA.out RB.out hbr.out hbr'.out).mono ?_; rintro e w1 ⟨rfl, b1⟩; have B1 : Hid (Below w.heap.size w w1) := chainD HB.out b1; clear b1)
      all_goals
        go_wp2
        go_roundw
        case rel => exact ⟨k + 1, by omega, by go_num, B1.out⟩
        case measure => simp [intOf]; omega
    · have : k = n := by omega
      subst this
      go_wp2
      go_ret
      exact ⟨rfl, HB.out⟩
theorem eqComingS_any (v v' : Value) (us : List Cmg) (w : World) (S S' : Nat → Prop) (hv : LAt 5 ECmg w S v us) (hv' : LAt 5 ECmg w S' v' us) (hS : ∀ g, S g → g < w.heap.size) (hS' : ∀ g, S' g → g < w.heap.size) :
    Calls Try.prog 23 #[v, v'] w fun e w' => e = .returned (.bool true) ∧ Below w.heap.size w w' := by
  obtain ⟨hn, A, c, rfl, h⟩ := hv
  obtain ⟨_, A', c', rfl, h'⟩ := hv'
  by_cases hz : us.length = 0
  · rw [hz]
    exact eqComingS_none A A' c c' w
  obtain ⟨g, o, F, rfl, hg, hc, hcell, hel⟩ := h.resolve_left hz
  obtain ⟨g', o', F', rfl, hg', hc', hcell', hel'⟩ := h'.resolve_left hz
  exact eqComingS_core g o g' o' us.length c c' us F F' w S S' hn hc hc' (hS g hg) (hS' g' hg') hS hS' hel hel' hcell hcell'
end Go.Proofs.Ytkibaimemomjpaa.Ls
namespace Go.Proofs.Ytkibaimemomjpaa.EdP
set_option maxRecDepth 8000
open Go.RowKit
open Ls Lp QyP QsP QtP QuP TbP IoP
set_option linter.unusedVariables false
structure St where
  left : Nat → List Arr
  marks : Nat → Int
  out : List Cmg
def upd {T : Type} (f : Nat → T) (p : Nat) (x : T) : Nat → T := fun q => if q = p then x else f q
theorem upd_same {T : Type} (f : Nat → T) (p : Nat) (x : T) : upd f p x p = x := if_pos rfl
theorem upd_other {T : Type} (f : Nat → T) {p q : Nat} (x : T) (h : q ≠ p) : upd f p x q = f q := if_neg h
def leastF (m : Int) (l : List Arr) : Int := l.foldl (fun m a => if a.time < m then a.time else m) m
def leastA (l : List Arr) : Int := leastF 1000000000000 l
def cmM (p : Nat) (m : Int) : Cmg := ⟨p, 0, [], false, m⟩
def cmA (p : Nat) (a : Arr) : Cmg := ⟨p, a.time, a.row, a.gone, -1⟩
def markS (p : Nat) (m : Int) (s : St) : St := ⟨s.left, upd s.marks p m, s.out ++ [cmM p m]⟩
def noteS (p : Nat) (m : Int) (s : St) : St := if s.marks p < m then markS p m s else s
def bring (p : Nat) (s : St) : St :=
  match s.left p with
  | [] => s
  | a :: r => let t := noteS p (leastA (a :: r)) s; ⟨upd t.left p r, t.marks, t.out ++ [cmA p a]⟩
def bringN (p : Nat) : Nat → St → St
  | 0, s => s
  | n + 1, s => bringN p n (bring p s)
def run : List Nat → St → St
  | [], s => s
  | p :: ps, s => run ps (bring p s)
def allK (n : Nat) : Nat → St → St
  | 0, s => s
  | k + 1, s => let t := allK n k s; bringN k (t.left k).length t
def endK : Nat → St → St
  | 0, s => s
  | k + 1, s => markS k 1000000000001 (endK k s)
def start (inp : List (List Arr)) : St := ⟨fun p => inp.getD p [], fun _ => 0, []⟩
def places (ord : List Int) : List Nat := ord.map Int.toNat
def whole (inp : List (List Arr)) (ord : List Int) : St := endK inp.length (allK inp.length inp.length (run (places ord) (start inp)))
def ordOk (ord : List Int) (n : Nat) : Bool := ord.all (inR 0 · ((n : Int) - 1)) && decide (ord.length ≤ 400)
def ends (l : List Src) (inp : List (List Arr)) (ord : List Int) : List Cmg :=
  if inpOk l inp && ordOk ord l.length then (if (whole inp ord).out.length ≤ 400 then (whole inp ord).out else []) else []
theorem note_left (p : Nat) (m : Int) (s : St) : (noteS p m s).left = s.left := by unfold noteS markS; split <;> rfl
theorem note_out (p : Nat) (m : Int) (s : St) : (noteS p m s).out.length ≤ s.out.length + 1 := by unfold noteS markS; split <;> simp
theorem bring_nil {p : Nat} {s : St} (h : s.left p = []) : bring p s = s := by unfold bring; rw [h]
theorem bring_left (p q : Nat) (s : St) : (bring p s).left q = if q = p then (s.left p).tail else s.left q := by
  unfold bring
  cases h : s.left p with
  | nil =>
    show s.left q = _
    by_cases e : q = p
    · rw [if_pos e, e, h]; rfl
    · rw [if_neg e]
  | cons a r =>
    dsimp only
    rw [note_left]
    rfl
theorem bring_len (p : Nat) (s : St) : ((bring p s).left p).length = (s.left p).length - 1 := by rw [bring_left, if_pos rfl, List.length_tail]
theorem bring_out (p : Nat) (s : St) : (bring p s).out.length ≤ s.out.length + (if (s.left p) = [] then 0 else 2) := by
  unfold bring
  cases h : s.left p with
  | nil => simp
  | cons a r =>
    have := note_out p (leastA (a :: r)) s
    simp only [List.length_append, List.length_singleton, reduceCtorEq, if_false]
    omega
theorem bringN_idle (p : Nat) : ∀ (n : Nat) (s : St), s.left p = [] → bringN p n s = s
  | 0, _, _ => rfl
  | n + 1, s, h => by rw [bringN, bring_nil h]; exact bringN_idle p n s h
theorem bringN_more (p : Nat) : ∀ (n : Nat) (s : St), (s.left p).length ≤ n → bringN p n s = bringN p (s.left p).length s
  | 0, s, h => by rw [show (s.left p).length = 0 by omega]
  | n + 1, s, h => by
    by_cases h0 : (s.left p).length = 0
    · rw [h0, bringN_idle p (n + 1) s (List.length_eq_zero_iff.1 h0)]; rfl
    · obtain ⟨k, hk⟩ : ∃ k, (s.left p).length = k + 1 := ⟨(s.left p).length - 1, by omega⟩
      rw [hk, bringN, bringN]
      have hl := bring_len p s
      have := bringN_more p n (bring p s) (by omega)
      rw [this]
      congr 1
      omega
theorem bringN_end (p : Nat) : ∀ (n : Nat) (s : St), (s.left p).length ≤ n → (bringN p n s).left p = []
  | 0, s, h => List.length_eq_zero_iff.1 (by rw [bringN]; omega)
  | n + 1, s, h => by
    rw [bringN]
    exact bringN_end p n _ (by rw [bring_len]; omega)
theorem run_app : ∀ (a b : List Nat) (s : St), run (a ++ b) s = run b (run a s)
  | [], _, _ => rfl
  | p :: a, b, s => by rw [List.cons_append, run, run, run_app a b]
theorem run_rep (p : Nat) : ∀ (n : Nat) (s : St), run (List.replicate n p) s = bringN p n s
  | 0, _ => rfl
  | n + 1, s => by rw [List.replicate_succ, run, bringN, run_rep p n]
theorem run_len (q : Nat) : ∀ (a : List Nat) (s : St), ((run a s).left q).length ≤ (s.left q).length
  | [], _ => Nat.le_refl _
  | p :: a, s => by
    rw [run]
    refine Nat.le_trans (run_len q a _) ?_
    rw [bring_left]
    split
    · next h => subst h; rw [List.length_tail]; omega
    · exact Nat.le_refl _
/-- What the model goes through: order, and behind it each source as often as it has arrivals. -/
def restK (inp : List (List Arr)) : Nat → List Nat
  | 0 => []
  | k + 1 => restK inp k ++ List.replicate (inp.getD k []).length k
theorem run_rest (inp : List (List Arr)) (n : Nat) : ∀ (k : Nat) (s : St), (∀ q, (s.left q).length ≤ (inp.getD q []).length) → run (restK inp k) s = allK n k s ∧ ∀ q, ((run (restK inp k) s).left q).length ≤ (inp.getD q []).length
  | 0, s, h => ⟨rfl, h⟩
  | k + 1, s, h => by
    obtain ⟨h1, h2⟩ := run_rest inp n k s h
    have e : run (restK inp (k + 1)) s = allK n (k + 1) s := by
      rw [restK, run_app, run_rep, h1, allK]
      rw [h1] at h2
      exact bringN_more k _ _ (h2 k)
    refine ⟨e, fun q => ?_⟩
    rw [restK, run_app]
    exact Nat.le_trans (run_len q _ _) (h2 q)
theorem whole_eq (inp : List (List Arr)) (ord : List Int) : whole inp ord = endK inp.length (run (places ord ++ restK inp inp.length) (start inp)) := by
  unfold whole
  rw [run_app, (run_rest inp inp.length inp.length _ (fun q => run_len q (places ord) (start inp))).1]
theorem run_next {a : List Nat} {k : Nat} (hk : k < a.length) (s : St) : run (a.take (k + 1)) s = bring (a.getD k 0) (run (a.take k) s) := by
  rw [List.take_add_one, List.getElem?_eq_getElem hk, run_app]
  simp [run, hk]
/-- How many comings there may be. -/
theorem run_out : ∀ (a : List Nat) (s : St), (run a s).out.length ≤ s.out.length + 2 * a.length
  | [], s => by simp [run]
  | p :: a, s => by
    rw [run]
    have h1 := run_out a (bring p s)
    have h2 := bring_out p s
    simp only [List.length_cons]
    split at h2 <;> omega
theorem end_out : ∀ (k : Nat) (s : St), (endK k s).out.length = s.out.length + k
  | 0, _ => rfl
  | k + 1, s => by
    rw [endK]
    unfold markS
    simp only [List.length_append, List.length_singleton]
    have := end_out k s
    omega
theorem least_le : ∀ (l : List Arr) (m : Int), leastF m l ≤ m
  | [], _ => Int.le_refl _
  | a :: l, m => by
    show leastF (if a.time < m then a.time else m) l ≤ m
    refine Int.le_trans (least_le l _) ?_
    split <;> omega
/-- The least of all may be begun at the first. -/
theorem least_first {a : Arr} {l : List Arr} (h : a.time ≤ 1000000000000) : leastA (a :: l) = leastF a.time l := by
  show leastF (if a.time < 1000000000000 then a.time else 1000000000000) l = _
  congr 1
  split <;> omega
theorem least_next {l : List Arr} {k : Nat} (m : Int) (hk : k < l.length) : leastF m (l.take (k + 1)) = if (l.getD k default).time < leastF m (l.take k) then (l.getD k default).time else leastF m (l.take k) := by
  unfold leastF
  rw [List.take_add_one, List.getElem?_eq_getElem hk, List.foldl_append]
  simp [hk]
theorem ends_few (l : List Src) (inp : List (List Arr)) (ord : List Int) : (ends l inp ord).length ≤ 400 := by
  unfold ends
  split
  · split
    · assumption
    · simp
  · simp
end Go.Proofs.Ytkibaimemomjpaa.EdP
