/- Right inputs, plain; Coming: how it lies in memory; what the law's measure and copier answer. -/
import Derived.Test.YtkibaimemomjpaaJE05
import Derived.Test.YtkibaimemomjpaaJE10
import Derived.Test.YtkibaimemomjpaaJE12
import Derived.Test.YtkibaimemomjpaaJE04
import Derived.Test.YtkibaimemomjpaaJE03
namespace Go.Proofs.Ytkibaimemomjpaa.IoP
set_option maxRecDepth 8000
open Go.RowKit
open Ls Lp QyP QsP QtP QuP TbP
open Recs (hsz below1 below2 chain)
set_option linter.unusedVariables false
abbrev Arr2 := List Arr
abbrev FineArr2 := FineL FineArr
abbrev szArr2 := szL szArr
def inN (n : Int) : Bool := inR (-1000000000000000) n 1000000000000000
def arrOk (s : Src) (a : Arr) : Bool := (inR 0 a.time 1000000000000 && (!a.gone || s.tab)) && (decide (a.row.length = s.cols.length) && a.row.all inN)
def cnt (us : List (List Arr)) : Nat := (us.map List.length).sum
def rowsK (l : List Src) (us : List (List Arr)) (k : Nat) : Bool := (List.range k).all fun i => (us.getD i default).all (arrOk (l.getD i default))
def inpOk (l : List Src) (us : List (List Arr)) : Bool := srcsOk l && (decide (us.length = l.length) && (decide (cnt us ≤ 300) && rowsK l us us.length))
theorem cnt_next {us : List (List Arr)} {k : Nat} (h : k < us.length) : cnt (us.take (k + 1)) = cnt (us.take k) + (us.getD k default).length := by
  unfold cnt
  rw [List.take_succ_eq_append_getElem h, List.map_append, List.sum_append]
  simp [h]
theorem cnt_split (us : List (List Arr)) (k : Nat) : cnt us = cnt (us.take k) + cnt (us.drop k) := by
  have := congrArg cnt (List.take_append_drop k us).symm
  rw [this]
  unfold cnt
  rw [List.map_append, List.sum_append]
theorem cnt_le (us : List (List Arr)) (k : Nat) : cnt (us.take k) ≤ cnt us := by have := cnt_split us k; omega
theorem cnt_sz : ∀ us : List (List Arr), cnt us ≤ tot szArr2 us
  | [] => by simp [cnt]
  | t :: r => by
    have := cnt_sz r
    have h2 : t.length ≤ szArr2 t := szL_len (f := szArr) (Nat.le_refl _)
    simp only [cnt, tot, List.map_cons, List.sum_cons] at *
    omega
theorem cnt_max {us : List (List Arr)} (h : szL szArr2 us ≤ 1048576) : cnt us ≤ 1048576 := by
  have := cnt_sz us
  unfold szL at h
  omega
theorem rows_next {l : List Src} {us : List (List Arr)} {k : Nat} (h : rowsK l us k = true) (h2 : (us.getD k default).all (arrOk (l.getD k default)) = true) : rowsK l us (k + 1) = true := by
  unfold rowsK at *
  rw [List.range_succ, List.all_append, h, List.all_cons, h2]
  rfl
theorem rows_bad {l : List Src} {us : List (List Arr)} {k n : Nat} (hk : k < n) (h2 : (us.getD k default).all (arrOk (l.getD k default)) = false) : rowsK l us n = false :=
  List.all_eq_false.2 ⟨k, List.mem_range.2 hk, by rw [h2]; simp⟩
/-- One list of arrivals, as an element of the inputs. -/
theorem arrs_at {w w' : World} {S : Nat → Prop} {A : Option Addr} {c : Nat} {us : List (List Arr)} {g o : Nat} {F : Nat → Nat → Value} (h : Opn 1 EArr2 w S A c us g o F) (hS : ∀ g, S g → g < w.heap.size) (hb : Below w.heap.size w w') {k : Nat} (hk : k < us.length) : ∃ A' c', LAt 3 EArr w' S (.slice A' (us.getD k default).length c') (us.getD k default) ∧ w'.cell? ⟨g, o + k, none⟩ = some (.slice A' (us.getD k default).length c') := by
  have OL := h.later keepsArr2 hS hb
  have e0 : LAt 3 EArr w' S (F k 0) (us.getD k default) := OL.el k hk
  have cc := OL.cells k hk 0 (by omega)
  obtain ⟨A', c', e3⟩ := e0.form
  refine ⟨A', c', by rw [← e3]; exact e0, ?_⟩
  rw [← e3]
  simpa using cc
end Go.Proofs.Ytkibaimemomjpaa.IoP
namespace Go.Proofs.Ytkibaimemomjpaa.Ls
set_option maxRecDepth 8000
open Go.RowKit
open Recs
set_option linter.unusedVariables false
structure Cmg where
  src : Int
  time : Int
  row : List Int
  gone : Bool
  mark : Int
  deriving Inhabited
def ECmg : Elt Cmg := fun w S f u => f 0 = .int .i64 u.src ∧ f 1 = .int .i64 u.time ∧ IntsAt w S (f 2) u.row ∧ f 3 = .bool u.gone ∧ f 4 = .int .i64 u.mark
theorem keepsCmg : Keeps 5 ECmg := fun w w' S f f' t h hk hf => by
  obtain ⟨h0, h1, h2, h3, h4⟩ := h
  exact ⟨by rw [hf 0 (by omega)]; exact h0, by rw [hf 1 (by omega)]; exact h1, by rw [hf 2 (by omega)]; exact h2.keep keepsI hk, by rw [hf 3 (by omega)]; exact h3, by rw [hf 4 (by omega)]; exact h4⟩
theorem growsCmg : Grows ECmg := fun w S S' f t h hs => by
  obtain ⟨h0, h1, h2, h3, h4⟩ := h
  exact ⟨h0, h1, h2.mono growsI hs, h3, h4⟩
def arrCmg (f : Nat → Value) : Array Value := #[f 0, f 1, f 2, f 3, f 4]
theorem oneCmg {w : World} {S : Nat → Prop} {f : Nat → Value} {u : Cmg} (h : ECmg w S f u) : (arrCmg f).all (·.oneCell') = true := by
  obtain ⟨h0, h1, h2, h3, h4⟩ := h
  have o0 : (f 0).oneCell' = true := by rw [h0]; rfl
  have o1 : (f 1).oneCell' = true := by rw [h1]; rfl
  have o2 : (f 2).oneCell' = true := h2.one
  have o3 : (f 3).oneCell' = true := by rw [h3]; rfl
  have o4 : (f 4).oneCell' = true := by rw [h4]; rfl
  simp [arrCmg, o0, o1, o2, o3, o4]
def CmgAt (w : World) (S : Nat → Prop) (v : Value) (u : Cmg) : Prop := ∃ f, v = .agg (arrCmg f) ∧ ECmg w S f u
abbrev CmgsAt := LAt 5 ECmg
theorem CmgAt.keep {w w' : World} {S : Nat → Prop} {v : Value} {u : Cmg} (h : CmgAt w S v u) (hk : ∀ g, S g → w'.heap[g]? = w.heap[g]?) : CmgAt w' S v u := by
  obtain ⟨f, h1, h2⟩ := h
  exact ⟨f, h1, keepsCmg _ _ _ _ _ _ h2 hk (fun _ _ => rfl)⟩
theorem CmgAt.mono {w : World} {S S' : Nat → Prop} {v : Value} {u : Cmg} (h : CmgAt w S v u) (hs : ∀ g, S g → S' g) : CmgAt w S' v u := by
  obtain ⟨f, h1, h2⟩ := h
  exact ⟨f, h1, growsCmg _ _ _ _ _ h2 hs⟩
theorem CmgAt.below {w w' : World} {B : Nat} {S : Nat → Prop} {v : Value} {u : Cmg} (h : CmgAt w S v u) (hb : Below B w w') (hs : ∀ g, S g → g < B) : CmgAt w' S v u := h.keep fun g hg => hb.block g (hs g hg)
def szCmg (u : Cmg) : Nat := szArr (⟨u.time, u.row, u.gone⟩ : Arr)
def FineCmg (u : Cmg) : Prop := I64 u.src ∧ I64 u.time ∧ FineL I64 u.row ∧ True ∧ I64 u.mark
theorem infoCmg : (Try.prog.info? 90).map (·.size) = some 5 := by kernel_rfl
theorem infoZCmg : (Try.prog.info? 90).map (fun i => (i.zero, i.size, i.bytes)) = some (some (.agg #[.int .i64 0, .int .i64 0, .slice none 0 0, .bool false, .int .i64 0]), 5, 56) := by kernel_rfl
set_option maxHeartbeats 1600000 in
theorem eqComing_any (v v' : Value) (u : Cmg) (w : World) (S S' : Nat → Prop) (hv : CmgAt w S v u) (hv' : CmgAt w S' v' u) (hS : ∀ g, S g → g < w.heap.size) (hS' : ∀ g, S' g → g < w.heap.size) :
    Calls Try.prog 64 #[v, v'] w fun e w' => e = .returned (.bool true) ∧ Below w.heap.size w w' := by
  obtain ⟨f, rfl, y0, y1, y2, y3, y4⟩ := hv
  obtain ⟨f', rfl, y0', y1', y2', y3', y4'⟩ := hv'
  try simp only [arrCmg]
  rw [show f 0 = _ from y0]
  clear y0
  rw [show f 1 = _ from y1]
  clear y1
  obtain ⟨A2, c2, g2⟩ := y2.form
  rw [g2] at y2 ⊢
  have H2 := Seg.hid y2
  clear y2 g2
  rw [show f 3 = _ from y3]
  clear y3
  rw [show f 4 = _ from y4]
  clear y4
  try simp only [arrCmg]
  rw [show f' 0 = _ from y0']
  clear y0'
  rw [show f' 1 = _ from y1']
  clear y1'
  obtain ⟨A2', c2', g2'⟩ := y2'.form
  rw [g2'] at y2' ⊢
  have H2' := Seg.hid y2'
  clear y2' g2'
  rw [show f' 3 = _ from y3']
  clear y3'
  rw [show f' 4 = _ from y4']
  clear y4'
  have G1 : Hid (ArrAt w S (.agg #[.int .i64 u.time, .slice A2 u.row.length c2, .bool u.gone]) (⟨u.time, u.row, u.gone⟩ : Arr)) := ⟨fun q => if q = 0 then .int .i64 u.time else if q = 1 then .slice A2 u.row.length c2 else .bool u.gone, rfl, rfl, H2.out, rfl⟩
  have G1' : Hid (ArrAt w S' (.agg #[.int .i64 u.time, .slice A2' u.row.length c2', .bool u.gone]) (⟨u.time, u.row, u.gone⟩ : Arr)) := ⟨fun q => if q = 0 then .int .i64 u.time else if q = 1 then .slice A2' u.row.length c2' else .bool u.gone, rfl, rfl, H2'.out, rfl⟩
  go_enter Try.func64, Try.ntmps64
  go_wp2_with fail
  refine (eqArrival_any _ _ (⟨u.time, u.row, u.gone⟩ : Arr) ((w.alloc _).alloc _) S S' (G1.out.below (below2 w _ _) hS) (G1'.out.below (below2 w _ _) hS') (fun g hg => by rw [hsz, hsz]; have := hS g hg; omega) (fun g hg => by rw [hsz, hsz]; have := hS' g hg; omega)).mono ?_
  rintro e w1 ⟨rfl, b1⟩
  have B1 := Seg.hid (chain (below2 w _ _) b1)
  have Ta1 : Hid (w1.heap[w.heap.size]? = some (.cells #[.int .i64 u.src, .int .i64 u.time, .slice A2 u.row.length c2, .bool u.gone, .int .i64 u.mark] 90 (0, 0))) := (b1.block w.heap.size (by rw [hsz, hsz]; omega)).trans (at2z w _ _)
  have Tb1 : Hid (w1.heap[w.heap.size + 1]? = some (.cells #[.int .i64 u.src, .int .i64 u.time, .slice A2' u.row.length c2', .bool u.gone, .int .i64 u.mark] 90 (0, 0))) := (b1.block (w.heap.size + 1) (by rw [hsz, hsz]; omega)).trans (at2y w _ _)
  have s1 : w.heap.size + 1 < w1.heap.size := (Array.getElem?_eq_some_iff.1 Tb1.out).1
  have pa14 : w1.cell? ⟨w.heap.size, 4, none⟩ = some (.int .i64 u.mark) := cell_of_row w1 _ 4 _ _ (0, 0) Ta1.out
  have pb14 : w1.cell? ⟨w.heap.size + 1, 4, none⟩ = some (.int .i64 u.mark) := cell_of_row w1 _ 4 _ _ (0, 0) Tb1.out
  clear b1
  go_wp2
  go_ret
  exact ⟨rfl, B1.out⟩
end Go.Proofs.Ytkibaimemomjpaa.Ls
