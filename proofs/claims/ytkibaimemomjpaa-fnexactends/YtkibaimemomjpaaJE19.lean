/- A list of structs that grows, in memory of the call's own; Lists of lists of Int: what the law's helpers answer. -/
import Derived.Deep.AppendLies
import Derived.Test.YtkibaimemomjpaaJE16
import Derived.Test.YtkibaimemomjpaaJE03
namespace Go.Proofs.Ytkibaimemomjpaa.Ow
set_option maxRecDepth 8000
open Go.RowKit
open Recs
open Ls
set_option linter.unusedVariables false
section
variable {T : Type} [Inhabited T] {ty nf : Nat} {EO : Elt T}
/-- The row is the call's own and may grow; each element's blocks are its own, none of them the row's. -/
structure LGr (ty nf : Nat) (EO : Elt T) (w : World) (base : Nat) (v : Value) (us : List T) (F : Nat → Value) (P : Nat → Nat → Prop) : Prop where
  own : w.ownsRow base ty nf v us.length ((List.range (us.length * nf)).map F)
  el : ∀ i, i < us.length → EO w (P i) (fun q => F (i * nf + q)) (us.getD i default)
  apart : ∀ i, i < us.length → ∀ x, P i x → base ≤ x ∧ x < w.heap.size ∧ v.ownBlock ≠ some x
  disj : ∀ i j, i < us.length → j < us.length → i ≠ j → ∀ x, P i x → ¬ P j x
def LGrow (ty nf : Nat) (EO : Elt T) (w : World) (base : Nat) (v : Value) (us : List T) : Prop := ∃ F P, LGr ty nf EO w base v us F P
theorem LGrow.nil (w : World) (base : Nat) : LGrow ty nf EO w base (.slice none 0 0) ([] : List T) :=
  ⟨fun _ => default, fun _ _ => False, by simpa using World.ownsRow_nil w base ty nf, fun i hi => absurd hi (by simp), fun i hi => absurd hi (by simp), fun i j hi => absurd hi (by simp)⟩
theorem LGrow.empty {w : World} {base : Nat} {v : Value} (h : w.ownsRow base ty nf v 0 []) : LGrow ty nf EO w base v ([] : List T) :=
  ⟨fun _ => default, fun _ _ => False, by simpa using h, fun i hi => absurd hi (by simp), fun i hi => absurd hi (by simp), fun i j hi => absurd hi (by simp)⟩
theorem LGrow.form {w : World} {base : Nat} {v : Value} {us : List T} (h : LGrow ty nf EO w base v us) : ∃ A c, v = .slice A us.length c := by
  obtain ⟨F, P, h⟩ := h
  rcases h.own.2 with ⟨h1, h2⟩ | ⟨g, cap, cur, h1, _⟩
  · exact ⟨none, 0, by rw [h1, h2]⟩
  · exact ⟨_, _, h1⟩
theorem own_keep {w w' : World} {base n : Nat} {v : Value} {xs : List Value} (h : w.ownsRow base ty nf v n xs) (hk : ∀ g, base ≤ g → g < w.heap.size → w'.heap[g]? = w.heap[g]?) : w'.ownsRow base ty nf v n xs := by
  refine ⟨h.1, ?_⟩
  rcases h.2 with hn | ⟨g', cap, cur, h1, hbs, hgg, rest⟩
  · exact .inl hn
  · exact .inr ⟨g', cap, cur, h1, hbs, by rw [hk g' hbs (Array.getElem?_eq_some_iff.1 hgg).1]; exact hgg, rest⟩
theorem LGr.keep (hE : KeepsO nf EO) {w w' : World} {base : Nat} {v : Value} {us : List T} {F : Nat → Value} {P : Nat → Nat → Prop} (h : LGr ty nf EO w base v us F P) (hs : w.heap.size ≤ w'.heap.size) (hk : ∀ g, base ≤ g → g < w.heap.size → w'.heap[g]? = w.heap[g]?) : LGr ty nf EO w' base v us F P :=
  ⟨own_keep h.own hk, fun i hi => hE _ _ _ _ _ _ (h.el i hi) hs (fun g hg => hk g (h.apart i hi g hg).1 (h.apart i hi g hg).2.1) (fun _ _ => rfl), fun i hi x hx => ⟨(h.apart i hi x hx).1, Nat.lt_of_lt_of_le (h.apart i hi x hx).2.1 hs, (h.apart i hi x hx).2.2⟩, h.disj⟩
theorem LGrow.keep (hE : KeepsO nf EO) {w w' : World} {base : Nat} {v : Value} {us : List T} (h : LGrow ty nf EO w base v us) (hs : w.heap.size ≤ w'.heap.size) (hk : ∀ g, base ≤ g → g < w.heap.size → w'.heap[g]? = w.heap[g]?) : LGrow ty nf EO w' base v us := by
  obtain ⟨F, P, h⟩ := h
  exact ⟨F, P, h.keep hE hs hk⟩
theorem LGrow.below (hE : KeepsO nf EO) {w w' : World} {base : Nat} {v : Value} {us : List T} (h : LGrow ty nf EO w base v us) (hb : Below w.heap.size w w') : LGrow ty nf EO w' base v us := h.keep hE hb.size (fun g _ hg => hb.block g hg)
theorem LGrow.own {w : World} {base : Nat} {v : Value} {us : List T} (h : LGrow ty nf EO w base v us) (hn : us.length ≤ 1048576) : LOwn ty nf EO w (seg base w.heap.size) v us := by
  obtain ⟨F, P, h⟩ := h
  refine ⟨hn, ?_⟩
  rcases h.own.2 with ⟨h1, h2⟩ | ⟨g, cap, cur, h1, h2, h3, h4⟩
  · exact ⟨none, 0, by rw [h1, h2], .inl h2⟩
  · refine ⟨_, cap, h1, .inr ⟨g, F, P, rfl, ⟨h2, (Array.getElem?_eq_some_iff.1 h3).1⟩, fun i hi x hx => ⟨(h.apart i hi x hx).1, (h.apart i hi x hx).2.1⟩, ⟨h.own.1, .inr ⟨g, cap, cur, rfl, Nat.le_refl _, h3, h4⟩⟩, rfl, h.el, fun i hi x hx => ⟨fun e => (h.apart i hi x hx).2.2 ?_, (h.apart i hi x hx).2.1⟩, h.disj⟩⟩
    rw [h1, e]
    rfl
theorem map_push (F : Nat → Value) (n nf : Nat) (news : List Value) (hl : news.length = nf) : (List.range (n * nf)).map F ++ news = (List.range ((n + 1) * nf)).map (fun q => if q < n * nf then F q else news.getD (q - n * nf) default) := by
  refine List.ext_getElem (by simp [hl, Nat.succ_mul]) fun i h1 h2 => ?_
  simp only [List.getElem_map, List.getElem_range]
  by_cases hi : i < n * nf
  · rw [if_pos hi, List.getElem_append_left (by simpa using hi)]
    simp
  · rw [if_neg hi, List.getElem_append_right (by simpa using hi)]
    simp at h1 h2
    simp [List.getD_eq_getElem?_getD, List.getElem?_eq_getElem (show i - n * nf < news.length by omega)]
theorem getD_app_left {us : List T} {t : T} {i : Nat} (h : i < us.length) : (us ++ [t]).getD i default = us.getD i default := by
  rw [List.getD_eq_getElem?_getD, List.getElem?_append_left h, ← List.getD_eq_getElem?_getD]
theorem getD_app_last {us : List T} {t : T} : (us ++ [t]).getD us.length default = t := by simp
/-- One element more. wr: the world of the list; w2: ahead of append; w3: behind it. -/
theorem LGr.push (hE : KeepsO nf EO) {wr w2 w3 : World} {base g cap : Nat} {v : Value} {us : List T} {F : Nat → Value} {P : Nat → Nat → Prop} {Q : Nat → Prop} {t : T} {news : List Value} (h : LGr ty nf EO wr base v us F P) (hbase : base ≤ wr.heap.size) (hs : wr.heap.size ≤ w2.heap.size) (hk : ∀ x, base ≤ x → x < wr.heap.size → w2.heap[x]? = wr.heap[x]?)
    (he : EO w2 Q (fun q => news.getD q default) t) (hQ : ∀ x, Q x → wr.heap.size ≤ x ∧ x < w2.heap.size) (hl : news.length = nf) (hown : w3.ownsRow base ty nf (.slice (some ⟨g, 0, none⟩) (us.length + 1) cap) (us.length + 1) ((List.range (us.length * nf)).map F ++ news)) (gr : w2.grownBy w3 v.ownBlock) (hg : v.ownBlock = some g ∨ g = w2.heap.size) :
    LGrow ty nf EO w3 base (.slice (some ⟨g, 0, none⟩) (us.length + 1) cap) (us ++ [t]) := by
  have h2 := h.keep hE hs hk
  have hvb : ∀ x, v.ownBlock = some x → base ≤ x ∧ x < wr.heap.size := fun x hx => World.ownsRow.lt h.own x hx
  have gs := gr.size
  refine ⟨fun q => if q < us.length * nf then F q else news.getD (q - us.length * nf) default, fun i => if i = us.length then Q else P i, ?_, fun i hi => ?_, fun i hi x hx => ?_, fun i j hi hj hij x hx hx' => ?_⟩
  · rw [List.length_append, List.length_singleton, ← map_push F us.length nf news hl]
    exact hown
  · by_cases e : i = us.length
    · subst e
      rw [if_pos rfl, getD_app_last]
      refine hE _ _ _ _ _ _ he gs (fun x hx => gr.block x (hQ x hx).2 (fun e => ?_)) (fun q hq => ?_)
      · have a1 := hvb x e.symm
        have a2 := hQ x hx
        omega
      · rw [if_neg (by omega), Nat.add_sub_cancel_left]
    · have hi' : i < us.length := by rw [List.length_append, List.length_singleton] at hi; omega
      rw [if_neg e, getD_app_left hi']
      refine hE _ _ _ _ _ _ (h2.el i hi') gs (fun x hx => gr.block x (h2.apart i hi' x hx).2.1 (fun e => (h2.apart i hi' x hx).2.2 e.symm)) (fun q hq => ?_)
      have : (i + 1) * nf ≤ us.length * nf := Nat.mul_le_mul_right nf (by omega)
      rw [Nat.succ_mul] at this
      rw [if_pos (by omega)]
  · by_cases e : i = us.length
    · subst e
      rw [if_pos rfl] at hx
      have a1 := hQ x hx
      refine ⟨by omega, by omega, fun e => ?_⟩
      simp only [Value.ownBlock, Option.some.injEq] at e
      rcases hg with hg | hg
      · have := hvb g hg; omega
      · omega
    · have hi' : i < us.length := by rw [List.length_append, List.length_singleton] at hi; omega
      rw [if_neg e] at hx
      have a1 := h2.apart i hi' x hx
      refine ⟨a1.1, by omega, fun e => ?_⟩
      simp only [Value.ownBlock, Option.some.injEq] at e
      rcases hg with hg | hg
      · exact a1.2.2 (by rw [hg, e])
      · omega
  · rw [List.length_append, List.length_singleton] at hi hj
    by_cases e : i = us.length
    · subst e
      rw [if_pos rfl] at hx
      rw [if_neg (Ne.symm hij)] at hx'
      have a1 := hQ x hx
      have a2 := h.apart j (by omega) x hx'
      omega
    · rw [if_neg e] at hx
      by_cases e2 : j = us.length
      · subst e2
        rw [if_pos rfl] at hx'
        have a1 := hQ x hx'
        have a2 := h.apart i (by omega) x hx
        omega
      · rw [if_neg e2] at hx'
        exact h.disj i j (by omega) (by omega) hij x hx hx'
end
end Go.Proofs.Ytkibaimemomjpaa.Ow
namespace Go.Proofs.Ytkibaimemomjpaa.Ls
set_option maxRecDepth 8000
open Go.RowKit
open Recs
set_option linter.unusedVariables false
def EI2 : Elt (List Int) := fun w S f u => LAt 1 EI w S (f 0) u
theorem keepsI2 : Keeps 1 EI2 := fun w w' S f f' t h hk hf => by show LAt _ _ _ _ (f' 0) _; rw [hf 0 (by omega)]; exact LAt.keep keepsI h hk
theorem growsI2 : Grows EI2 := fun w S S' f t h hs => LAt.mono growsI h hs
theorem infoZI2 : (Try.prog.info? 27).map (fun i => (i.zero, i.size, i.bytes)) = some (some (.slice none 0 0), 1, 24) := by kernel_rfl
theorem cells1i {w : World} {g o n : Nat} {F : Nat → Nat → Value} (h : ∀ i, i < n → ∀ j, j < 1 → w.cell? ⟨g, o + i * 1 + j, none⟩ = some (F i j)) : ∀ i, i < n → w.cell? ⟨g, o + i, none⟩ = some (F i 0) := fun i hi => by
  have := h i hi 0 (by omega)
  rw [show o + i * 1 + 0 = o + i by omega] at this
  exact this
theorem eqIntSS_none (A A' : Option Addr) (c c' : Nat) (w : World) :
    Calls Try.prog 10 #[.slice A 0 c, .slice A' 0 c'] w fun e w' => e = .returned (.bool true) ∧ Below w.heap.size w w' := by
  go_enter Try.func10, Try.ntmps10
  go_wp2
  go_loop [5] (fun i => i = .int .i64 0) (fun _ => 0)
  case atStart => rfl
  case round =>
    subst hrel
    go_wp2
    go_ret
    exact ⟨rfl, Below.refl _ _⟩
set_option maxHeartbeats 1600000 in
theorem eqIntSS_core (g o g' o' n c c' : Nat) (us : List (List Int)) (F F' : Nat → Nat → Value) (w : World) (S S' : Nat → Prop) (hn : n ≤ 9223372036854775807) (hc : n ≤ c) (hc' : n ≤ c') (hg : g < w.heap.size) (hg' : g' < w.heap.size) (hS : ∀ g, S g → g < w.heap.size) (hS' : ∀ g, S' g → g < w.heap.size)
    (he : ∀ i, i < n → EI2 w S (F i) (us.getD i default)) (he' : ∀ i, i < n → EI2 w S' (F' i) (us.getD i default))
    (ha : ∀ i, i < n → w.cell? ⟨g, o + i, none⟩ = some (F i 0)) (ha' : ∀ i, i < n → w.cell? ⟨g', o' + i, none⟩ = some (F' i 0)) :
    Calls Try.prog 10 #[.slice (some ⟨g, o, none⟩) n c, .slice (some ⟨g', o', none⟩) n c'] w fun e w' => e = .returned (.bool true) ∧ Below w.heap.size w w' := by
  have HA := Seg.hid ha; have HA' := Seg.hid ha'; have HH := Seg.hid he; have HH' := Seg.hid he'
  clear ha ha' he he'
  go_enter Try.func10, Try.ntmps10
  go_wp2
  go_loopw [5] (fun i wr => ∃ (k : Nat), k ≤ n ∧ i = .int .i64 k ∧ Hid (Below w.heap.size w wr)) (fun i _ => n - (intOf i).toNat)
  case atStart => exact ⟨0, Nat.zero_le _, rfl, Below.refl _ _⟩
  case round =>
    obtain ⟨k, hk, rfl, HB⟩ := hrel
    by_cases hlt2 : k < n
    · have c0 : wr.cell? ⟨g, o + k, none⟩ = some (F k 0) := (HB.out.cell (p := ⟨g, o + k, none⟩) hg).trans (HA.out k hlt2)
      have d0 : wr.cell? ⟨g', o' + k, none⟩ = some (F' k 0) := (HB.out.cell (p := ⟨g', o' + k, none⟩) hg').trans (HA'.out k hlt2)
      have RA : Hid (LAt 1 EI wr.drew S (F k 0) (us.getD k default)) := LAt.keep keepsI (HH.out k hlt2) (fun g hg => HB.out.drew.block g (hS g hg))
      have RB : Hid (LAt 1 EI wr.drew S' (F' k 0) (us.getD k default)) := LAt.keep keepsI (HH'.out k hlt2) (fun g hg => HB.out.drew.block g (hS' g hg))
      have hbr : Hid (∀ g, S g → g < wr.drew.heap.size) := fun g hg => Nat.lt_of_lt_of_le (hS g hg) HB.out.size
      have hbr' : Hid (∀ g, S' g → g < wr.drew.heap.size) := fun g hg => Nat.lt_of_lt_of_le (hS' g hg) HB.out.size
      have h0 : (0 : Int) ≤ (k : Int) := by omega
      have h1 : (k : Int) < (n : Int) := by omega
      generalize us.getD k default = uk at *
      go_wp2_with fail
      go_region_with (go_at_call 12; refine (eqIntS_any _ _ uk wr.drew S S' RA.out RB.out hbr.out hbr'.out).mono ?_; rintro e w1 ⟨rfl, b1⟩; have B1 : Hid (Below w.heap.size w w1) := chainD HB.out b1; clear b1)
      all_goals
        go_wp2
        go_roundw
        case rel => exact ⟨k + 1, by omega, by go_num, B1.out⟩
        case measure => simp [intOf]; omega
    · have : k = n := by omega
      subst this
      go_wp2
      go_ret
      exact ⟨rfl, HB.out⟩
theorem eqIntSS_any (v v' : Value) (us : List (List Int)) (w : World) (S S' : Nat → Prop) (hv : LAt 1 EI2 w S v us) (hv' : LAt 1 EI2 w S' v' us) (hS : ∀ g, S g → g < w.heap.size) (hS' : ∀ g, S' g → g < w.heap.size) :
    Calls Try.prog 10 #[v, v'] w fun e w' => e = .returned (.bool true) ∧ Below w.heap.size w w' := by
  obtain ⟨hn, A, c, rfl, h⟩ := hv
  obtain ⟨_, A', c', rfl, h'⟩ := hv'
  by_cases hz : us.length = 0
  · rw [hz]
    exact eqIntSS_none A A' c c' w
  obtain ⟨g, o, F, rfl, hg, hc, hcell, hel⟩ := h.resolve_left hz
  obtain ⟨g', o', F', rfl, hg', hc', hcell', hel'⟩ := h'.resolve_left hz
  exact eqIntSS_core g o g' o' us.length c c' us F F' w S S' hn hc hc' (hS g hg) (hS' g' hg') hS hS' hel hel' (cells1i hcell) (cells1i hcell')
end Go.Proofs.Ytkibaimemomjpaa.Ls
