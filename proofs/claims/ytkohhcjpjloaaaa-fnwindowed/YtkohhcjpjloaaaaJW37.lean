/- A list of structs that grows, in memory of the call's own; The program's timesOk, and the starts of hops. -/
import Derived.Deep.AppendLies
import Derived.Deep.RegionHeld3
import Derived.Deep.Cut
import Derived.Test.YtkohhcjpjloaaaaJW31
import Derived.Test.YtkohhcjpjloaaaaJW30
import Derived.Test.YtkohhcjpjloaaaaJW35
import Derived.Test.YtkohhcjpjloaaaaJW07
import Derived.Test.YtkohhcjpjloaaaaJW36
namespace Go.Proofs.Ytkohhcjpjloaaaa.Ow
set_option maxRecDepth 8000
open Go.RowKit
open Recs
open Ls
set_option linter.unusedVariables false
section
variable {T : Type} [Inhabited T] {ty nf : Nat} {EO : Elt T}
/-- The row is the call's own and may grow; each element's blocks are its own, none of them the row's. -/
structure LGr (ty nf : Nat) (EO : Elt T) (w : World) (base : Nat) (v : Value) (us : List T) (F : Nat → Value) (P : Nat → Nat → Prop) : Prop where
  own : w.ownsRow base ty nf v us.length ((List.range (us.length * nf)).map F)
  el : ∀ i, i < us.length → EO w (P i) (fun q => F (i * nf + q)) (us.getD i default)
  apart : ∀ i, i < us.length → ∀ x, P i x → base ≤ x ∧ x < w.heap.size ∧ v.ownBlock ≠ some x
  disj : ∀ i j, i < us.length → j < us.length → i ≠ j → ∀ x, P i x → ¬ P j x
def LGrow (ty nf : Nat) (EO : Elt T) (w : World) (base : Nat) (v : Value) (us : List T) : Prop := ∃ F P, LGr ty nf EO w base v us F P
theorem LGrow.nil (w : World) (base : Nat) : LGrow ty nf EO w base (.slice none 0 0) ([] : List T) :=
  ⟨fun _ => default, fun _ _ => False, by simpa using World.ownsRow_nil w base ty nf, fun i hi => absurd hi (by simp), fun i hi => absurd hi (by simp), fun i j hi => absurd hi (by simp)⟩
theorem LGrow.empty {w : World} {base : Nat} {v : Value} (h : w.ownsRow base ty nf v 0 []) : LGrow ty nf EO w base v ([] : List T) :=
  ⟨fun _ => default, fun _ _ => False, by simpa using h, fun i hi => absurd hi (by simp), fun i hi => absurd hi (by simp), fun i j hi => absurd hi (by simp)⟩
theorem LGrow.form {w : World} {base : Nat} {v : Value} {us : List T} (h : LGrow ty nf EO w base v us) : ∃ A c, v = .slice A us.length c := by
  obtain ⟨F, P, h⟩ := h
  rcases h.own.2 with ⟨h1, h2⟩ | ⟨g, cap, cur, h1, _⟩
  · exact ⟨none, 0, by rw [h1, h2]⟩
  · exact ⟨_, _, h1⟩
theorem own_keep {w w' : World} {base n : Nat} {v : Value} {xs : List Value} (h : w.ownsRow base ty nf v n xs) (hk : ∀ g, base ≤ g → g < w.heap.size → w'.heap[g]? = w.heap[g]?) : w'.ownsRow base ty nf v n xs := by
  refine ⟨h.1, ?_⟩
  rcases h.2 with hn | ⟨g', cap, cur, h1, hbs, hgg, rest⟩
  · exact .inl hn
  · exact .inr ⟨g', cap, cur, h1, hbs, by rw [hk g' hbs (Array.getElem?_eq_some_iff.1 hgg).1]; exact hgg, rest⟩
theorem LGr.keep (hE : KeepsO nf EO) {w w' : World} {base : Nat} {v : Value} {us : List T} {F : Nat → Value} {P : Nat → Nat → Prop} (h : LGr ty nf EO w base v us F P) (hs : w.heap.size ≤ w'.heap.size) (hk : ∀ g, base ≤ g → g < w.heap.size → w'.heap[g]? = w.heap[g]?) : LGr ty nf EO w' base v us F P :=
  ⟨own_keep h.own hk, fun i hi => hE _ _ _ _ _ _ (h.el i hi) hs (fun g hg => hk g (h.apart i hi g hg).1 (h.apart i hi g hg).2.1) (fun _ _ => rfl), fun i hi x hx => ⟨(h.apart i hi x hx).1, Nat.lt_of_lt_of_le (h.apart i hi x hx).2.1 hs, (h.apart i hi x hx).2.2⟩, h.disj⟩
theorem LGrow.keep (hE : KeepsO nf EO) {w w' : World} {base : Nat} {v : Value} {us : List T} (h : LGrow ty nf EO w base v us) (hs : w.heap.size ≤ w'.heap.size) (hk : ∀ g, base ≤ g → g < w.heap.size → w'.heap[g]? = w.heap[g]?) : LGrow ty nf EO w' base v us := by
  obtain ⟨F, P, h⟩ := h
  exact ⟨F, P, h.keep hE hs hk⟩
theorem LGrow.below (hE : KeepsO nf EO) {w w' : World} {base : Nat} {v : Value} {us : List T} (h : LGrow ty nf EO w base v us) (hb : Below w.heap.size w w') : LGrow ty nf EO w' base v us := h.keep hE hb.size (fun g _ hg => hb.block g hg)
theorem LGrow.own {w : World} {base : Nat} {v : Value} {us : List T} (h : LGrow ty nf EO w base v us) (hn : us.length ≤ 1048576) : LOwn ty nf EO w (seg base w.heap.size) v us := by
  obtain ⟨F, P, h⟩ := h
  refine ⟨hn, ?_⟩
  rcases h.own.2 with ⟨h1, h2⟩ | ⟨g, cap, cur, h1, h2, h3, h4⟩
  · exact ⟨none, 0, by rw [h1, h2], .inl h2⟩
  · refine ⟨_, cap, h1, .inr ⟨g, F, P, rfl, ⟨h2, (Array.getElem?_eq_some_iff.1 h3).1⟩, fun i hi x hx => ⟨(h.apart i hi x hx).1, (h.apart i hi x hx).2.1⟩, ⟨h.own.1, .inr ⟨g, cap, cur, rfl, Nat.le_refl _, h3, h4⟩⟩, rfl, h.el, fun i hi x hx => ⟨fun e => (h.apart i hi x hx).2.2 ?_, (h.apart i hi x hx).2.1⟩, h.disj⟩⟩
    rw [h1, e]
    rfl
theorem map_push (F : Nat → Value) (n nf : Nat) (news : List Value) (hl : news.length = nf) : (List.range (n * nf)).map F ++ news = (List.range ((n + 1) * nf)).map (fun q => if q < n * nf then F q else news.getD (q - n * nf) default) := by
  refine List.ext_getElem (by simp [hl, Nat.succ_mul]) fun i h1 h2 => ?_
  simp only [List.getElem_map, List.getElem_range]
  by_cases hi : i < n * nf
  · rw [if_pos hi, List.getElem_append_left (by simpa using hi)]
    simp
  · rw [if_neg hi, List.getElem_append_right (by simpa using hi)]
    simp at h1 h2
    simp [List.getD_eq_getElem?_getD, List.getElem?_eq_getElem (show i - n * nf < news.length by omega)]
theorem getD_app_left {us : List T} {t : T} {i : Nat} (h : i < us.length) : (us ++ [t]).getD i default = us.getD i default := by
  rw [List.getD_eq_getElem?_getD, List.getElem?_append_left h, ← List.getD_eq_getElem?_getD]
theorem getD_app_last {us : List T} {t : T} : (us ++ [t]).getD us.length default = t := by simp
/-- One element more. wr: the world of the list; w2: ahead of append; w3: behind it. -/
theorem LGr.push (hE : KeepsO nf EO) {wr w2 w3 : World} {base g cap : Nat} {v : Value} {us : List T} {F : Nat → Value} {P : Nat → Nat → Prop} {Q : Nat → Prop} {t : T} {news : List Value} (h : LGr ty nf EO wr base v us F P) (hbase : base ≤ wr.heap.size) (hs : wr.heap.size ≤ w2.heap.size) (hk : ∀ x, base ≤ x → x < wr.heap.size → w2.heap[x]? = wr.heap[x]?)
    (he : EO w2 Q (fun q => news.getD q default) t) (hQ : ∀ x, Q x → wr.heap.size ≤ x ∧ x < w2.heap.size) (hl : news.length = nf) (hown : w3.ownsRow base ty nf (.slice (some ⟨g, 0, none⟩) (us.length + 1) cap) (us.length + 1) ((List.range (us.length * nf)).map F ++ news)) (gr : w2.grownBy w3 v.ownBlock) (hg : v.ownBlock = some g ∨ g = w2.heap.size) :
    LGrow ty nf EO w3 base (.slice (some ⟨g, 0, none⟩) (us.length + 1) cap) (us ++ [t]) := by
  have h2 := h.keep hE hs hk
  have hvb : ∀ x, v.ownBlock = some x → base ≤ x ∧ x < wr.heap.size := fun x hx => World.ownsRow.lt h.own x hx
  have gs := gr.size
  refine ⟨fun q => if q < us.length * nf then F q else news.getD (q - us.length * nf) default, fun i => if i = us.length then Q else P i, ?_, fun i hi => ?_, fun i hi x hx => ?_, fun i j hi hj hij x hx hx' => ?_⟩
  · rw [List.length_append, List.length_singleton, ← map_push F us.length nf news hl]
    exact hown
  · by_cases e : i = us.length
    · subst e
      rw [if_pos rfl, getD_app_last]
      refine hE _ _ _ _ _ _ he gs (fun x hx => gr.block x (hQ x hx).2 (fun e => ?_)) (fun q hq => ?_)
      · have a1 := hvb x e.symm
        have a2 := hQ x hx
        omega
      · rw [if_neg (by omega), Nat.add_sub_cancel_left]
    · have hi' : i < us.length := by rw [List.length_append, List.length_singleton] at hi; omega
      rw [if_neg e, getD_app_left hi']
      refine hE _ _ _ _ _ _ (h2.el i hi') gs (fun x hx => gr.block x (h2.apart i hi' x hx).2.1 (fun e => (h2.apart i hi' x hx).2.2 e.symm)) (fun q hq => ?_)
      have : (i + 1) * nf ≤ us.length * nf := Nat.mul_le_mul_right nf (by omega)
      rw [Nat.succ_mul] at this
      rw [if_pos (by omega)]
  · by_cases e : i = us.length
    · subst e
      rw [if_pos rfl] at hx
      have a1 := hQ x hx
      refine ⟨by omega, by omega, fun e => ?_⟩
      simp only [Value.ownBlock, Option.some.injEq] at e
      rcases hg with hg | hg
      · have := hvb g hg; omega
      · omega
    · have hi' : i < us.length := by rw [List.length_append, List.length_singleton] at hi; omega
      rw [if_neg e] at hx
      have a1 := h2.apart i hi' x hx
      refine ⟨a1.1, by omega, fun e => ?_⟩
      simp only [Value.ownBlock, Option.some.injEq] at e
      rcases hg with hg | hg
      · exact a1.2.2 (by rw [hg, e])
      · omega
  · rw [List.length_append, List.length_singleton] at hi hj
    by_cases e : i = us.length
    · subst e
      rw [if_pos rfl] at hx
      rw [if_neg (Ne.symm hij)] at hx'
      have a1 := hQ x hx
      have a2 := h.apart j (by omega) x hx'
      omega
    · rw [if_neg e] at hx
      by_cases e2 : j = us.length
      · subst e2
        rw [if_pos rfl] at hx'
        have a1 := hQ x hx'
        have a2 := h.apart i (by omega) x hx
        omega
      · rw [if_neg e2] at hx'
        exact h.disj i j (by omega) (by omega) hij x hx hx'
end
end Go.Proofs.Ytkohhcjpjloaaaa.Ow
namespace Go.Proofs.Ytkohhcjpjloaaaa.WnI
set_option maxRecDepth 8000
open Go.RowKit
open Ls Lp QyP QsP RkP IrA SrP WnP
open Recs (hsz below1 below2 chain chainD)
set_option linter.unusedVariables false
def timesB (ts : List Int) : Bool := ts.all inT && decide (ts.length ≤ 3000)
set_option maxHeartbeats 1600000 in
theorem times_any (v : Value) (ns : List Int) (w : World) (S : Nat → Prop) (hv : IntsAt w S v ns) (hS : ∀ g, S g → g < w.heap.size) :
    Calls Try.prog 16 #[v] w fun e w' => e = .returned (.bool (timesB ns)) ∧ w = w' := by
  obtain ⟨A, c, g, o, F, rfl, OP, hn⟩ := opn hv hS
  have HO := Seg.hid OP
  clear hv OP
  obtain ⟨R, hR⟩ : ∃ R, timesB ns = R := ⟨_, rfl⟩
  rw [hR]
  have HR := Seg.hid hR
  clear hR
  go_enter Try.func16, Try.ntmps16
  go_wp2
  go_loop [7] (fun i => ∃ k : Nat, k ≤ ns.length ∧ i = .int .i64 k ∧ Hid ((ns.take k).all inT = true)) (fun i => ns.length - (intOf i).toNat)
  case atStart => exact ⟨0, Nat.zero_le _, rfl, by show _ = _; simp⟩
  case round =>
    obtain ⟨k, hk, rfl, HG⟩ := hrel
    by_cases hlt : k < ns.length
    · obtain ⟨ea, hc, hgw⟩ := HO.out.addr.resolve_left (by omega)
      subst ea
      have d0 := TbP.ints_cell HO.out hlt
      have h0 : (0 : Int) ≤ (k : Int) := by omega
      have h1 : (k : Int) < (ns.length : Int) := by omega
      have NX := Seg.hid (all_next inT ns k hlt HG.out)
      have BX := Seg.hid (all_bad inT ns k hlt)
      generalize ns.getD k default = nk at *
      cases hy : inT nk with
      | true =>
        have NY : Hid ((ns.take (k + 1)).all inT = true) := NX.out hy
        have CC := Seg.hid (InB.within_b nk 0 1000000000000 true hy)
        clear hy NX BX
        go_wp2_with (go_at_call 31; refine (CC.out _).mono ?_; rintro e w5 ⟨rfl, rfl⟩)
        go_round
        case rel => exact ⟨k + 1, by omega, by go_num, NY.out⟩
        case measure => simp [intOf]; omega
      | false =>
        have NY : Hid (R = false) := by show _ = _; rw [← HR.out]; unfold timesB; rw [BX.out hy]; rfl
        have CC := Seg.hid (InB.within_b nk 0 1000000000000 false hy)
        clear hy NX BX
        go_wp2_with (go_at_call 31; refine (CC.out _).mono ?_; rintro e w5 ⟨rfl, rfl⟩)
        go_ret
        exact ⟨by rw [NY.out]; rfl, rfl⟩
    · have hkl : k = ns.length := by omega
      have RF : Hid (R = decide (ns.length ≤ 3000)) := by show _ = _; have := HG.out; rw [hkl, List.take_length] at this; rw [← HR.out]; unfold timesB; rw [this, Bool.true_and]
      have hx1 : ¬ (k : Int) < (ns.length : Int) := by omega
      have b0 : decide ((ns.length : Int) ≤ 3000) = decide (ns.length ≤ 3000) := by rw [decide_eq_decide]; omega
      clear hkl
      go_wp2
      go_ret
      exact ⟨by rw [RF.out]; rfl, rfl⟩
theorem infoW : (Try.prog.info? 29).map (fun i => (i.zero, i.size, i.bytes)) = some (some (.slice none 0 0), 1, 24) := by kernel_rfl
theorem two_row (w : World) (a b : Int) : NRow (w.alloc (.cells #[.int .i64 a, .int .i64 b] 3 (0, 0))) w.heap.size (.slice (some ⟨w.heap.size, 0, none⟩) 2 2) [a, b] :=
  ⟨rfl, .inr ⟨w.heap.size, 2, _, rfl, Nat.le_refl _, heap_alloc_new _ _, by simp, by unfold maxLen; omega, by simp, by simp⟩⟩
theorem new2 (w : World) (a b : Obj) : ((w.alloc a).alloc b).heap[w.heap.size + 1]? = some b := by
  have h := heap_alloc_new (w.alloc a) b
  rw [hsz] at h
  exact h
/-- What the loop over the starts keeps: the windows so far. -/
structure Hw (b2 : Nat) (w4 wr : World) (size : Int) (cs : List Int) (k : Nat) (v : Value) : Prop where
  le : k ≤ cs.length
  gro : Ow.LGrow 29 1 Ow.EOI2 wr b2 v (winW size (cs.take k))
  bel : Below b2 w4 wr
theorem nx {w4 wr w9 : World} {b2 k g9 cap9 : Nat} {size s : Int} {cs : List Int} {v : Value} {F : Nat → Value} {P : Nat → Nat → Prop} {ob : Obj} (hlt : k < cs.length) (LG : Ow.LGr 29 1 Ow.EOI2 wr b2 v (winW size (cs.take k)) F P) (bel : Below b2 w4 wr) (hb : b2 ≤ wr.heap.size) (hc : cs.getD k default = s)
    (hown : w9.ownsRow b2 29 1 (.slice (some ⟨g9, 0, none⟩) ((winW size (cs.take k)).length + 1) cap9) ((winW size (cs.take k)).length + 1) ((List.range ((winW size (cs.take k)).length * 1)).map F ++ [.slice (some ⟨wr.heap.size, 0, none⟩) 2 2]))
    (gr : ((wr.alloc (.cells #[.int .i64 s, .int .i64 (s + size)] 3 (0, 0))).alloc ob).grownBy w9 v.ownBlock) (hg : v.ownBlock = some g9 ∨ g9 = ((wr.alloc (.cells #[.int .i64 s, .int .i64 (s + size)] 3 (0, 0))).alloc ob).heap.size) :
    Hw b2 w4 w9 size cs (k + 1) (.slice (some ⟨g9, 0, none⟩) ((winW size (cs.take k)).length + 1) cap9) := by
  have hb6 : Below wr.heap.size wr ((wr.alloc (.cells #[.int .i64 s, .int .i64 (s + size)] 3 (0, 0))).alloc ob) := chain (below1 wr _) (below1 _ ob)
  have n6 := (two_row wr s (s + size)).keep (below1 _ ob)
  generalize (wr.alloc (.cells #[.int .i64 s, .int .i64 (s + size)] 3 (0, 0))).alloc ob = w6 at *
  have hs := hb6.size
  refine ⟨hlt, ?_, ?_⟩
  · rw [win_next size hlt, hc]
    exact Ow.LGr.push Ow.keepsOI2 (w2 := w6) (Q := seg wr.heap.size w6.heap.size) (news := [.slice (some ⟨wr.heap.size, 0, none⟩) 2 2]) LG hb hs (fun x _ hx => hb6.block x hx) (own n6 (by simp)) (fun x hx => hx) rfl hown gr hg
  · exact (bel.trans (hb6.mono hb)).grown gr (by omega) (fun y hy => (World.ownsRow.lt LG.own y hy).1)
/-- The row of the times lies as it did, and the row of the starts is another one. -/
structure Ap (A : Option Addr) (wa wr : World) (v : Value) : Prop where
  size : wa.heap.size ≤ wr.heap.size
  row : ∀ y, A = some ⟨y, 0, none⟩ → y < wa.heap.size ∧ wr.heap[y]? = wa.heap[y]?
  own : ∀ y, A = some ⟨y, 0, none⟩ → v.ownBlock ≠ some y
theorem Ap.step {A : Option Addr} {wa wr w9 : World} {v : Value} {ob : Obj} {g9 n c : Nat} (h : Ap A wa wr v) (gr : (wr.alloc ob).grownBy w9 v.ownBlock) (hg : v.ownBlock = some g9 ∨ g9 = wr.heap.size + 1) : Ap A wa w9 (.slice (some ⟨g9, 0, none⟩) n c) := by
  have hs := h.size
  have h9 := gr.size
  rw [hsz] at h9
  refine ⟨by omega, fun y hy => ?_, fun y hy e => ?_⟩
  · obtain ⟨r1, r2⟩ := h.row y hy
    refine ⟨r1, ((gr.block y (by rw [hsz]; omega) (fun q => h.own y hy q.symm)).trans ((below1 wr ob).block y (by omega))).trans r2⟩
  · obtain ⟨r1, -⟩ := h.row y hy
    have e9 : g9 = y := by injection e
    rcases hg with q | q
    · exact h.own y hy (by rw [q, e9])
    · omega
/-- What the two loops over the times keep: the starts so far. -/
structure Hp (A : Option Addr) (wa w wr : World) (size every : Int) (ts : List Int) (k : Nat) (v : Value) (st : List Int) : Prop where
  le : k ≤ ts.length
  few : st.length ≤ 21 * k
  lie : NRow wr w.heap.size v st
  eq : st = staL size every (ts.take k)
  bel : Below w.heap.size w wr
  ap : Ap A wa wr v
structure Hq (A : Option Addr) (wa w wr : World) (size every : Int) (tar : List Int) (t s : Int) (k : Nat) (v : Value) (st : List Int) : Prop where
  some : ∃ n : Nat, st ++ hopF size every t n s = tar ∧ s - (t - size) ≤ (n : Int) * every ∧ st.length + n ≤ 21 * (k + 1) ∧ s ≤ t
  lie : NRow wr w.heap.size v st
  bel : Below w.heap.size w wr
  ap : Ap A wa wr v
theorem row_form {w : World} {B : Nat} {v : Value} {ns : List Int} (h : NRow w B v ns) : ∃ A c, v = .slice A ns.length c := by
  rcases h.2 with ⟨h1, h2⟩ | ⟨g, cap, cur, h1, -⟩
  · exact ⟨none, 0, by rw [h1, h2]⟩
  · exact ⟨_, cap, h1⟩
set_option maxHeartbeats 6400000 in
theorem hops_any (size every : Int) (x : Value) (ts : List Int) (w : World) (S : Nat → Prop) (hv : IntsAt w S x ts) (hS : ∀ g, S g → g < w.heap.size) (ht : ts.all inT = true) (hl : ts.length ≤ 3000) (hs : 1 ≤ size ∧ size ≤ 1000000000000) (he : 1 ≤ every ∧ every ≤ size) (hse : size ≤ 20 * every) :
    Calls Try.prog 17 #[.int .i64 size, .int .i64 every, x] w fun e w' => ∃ v, e = .returned v ∧ (∃ B, w.heap.size ≤ B ∧ Ow.LGrow 29 1 Ow.EOI2 w' B v (winW size (cutS size every ts))) ∧ Below w.heap.size w w' := by
  have HV := Seg.hid hv
  obtain ⟨A0, c0, rfl⟩ := hv.form
  have HT0 := Seg.hid ht
  have HTS : Hid (ts.length ≤ 3000) := hl
  clear hv ht
  obtain ⟨i0, hi, hz0, hz1, hz2⟩ := info_parts infoI
  have E1 := Seg.hid (empty_row w)
  obtain ⟨W1, hW1⟩ : ∃ W1, w.alloc (.cells #[] 3 (0, 0)) = W1 := ⟨_, rfl⟩
  have BE : Hid (Below w.heap.size w W1) := by show Below _ _ _; rw [← hW1]; exact below1 w _
  have HW1 : Hid (W1.heap.size = w.heap.size + 1) := by show _ = _; rw [← hW1, hsz]
  have HSE := Seg.hid hse
  have z1 : (every == 0) = false := by simp; omega
  have z2 : ¬ every = 0 := by omega
  have OO : Hid (cutS size every (Lib.compact (srt ts)) = cutS size every ts) := cut_once size every ts
  have SL0 : Hid ((srt ts).length = ts.length) := srt_len ts
  have HM0 : Hid ((Lib.compact (srt ts)).all inT = true) := List.all_eq_true.2 fun x hx => List.all_eq_true.1 HT0.out x ((compact_iff ts x).1 hx)
  clear hse hl
  go_enter Try.func17, Try.ntmps17
  go_upto_region 2 with fail
  rw [hW1] at E1
  try rw [hW1]
  obtain ⟨W2, hW2⟩ : ∃ W2, W1.alloc (.cells #[.slice A0 ts.length c0] 29 (0, 0)) = W2 := ⟨_, rfl⟩
  have B2 : Hid (Below W1.heap.size W1 W2) := by show Below _ _ _; rw [← hW2]; exact below1 W1 _
  have CS : Hid (Calls Try.prog 33 #[.func (.func 47) #[] #[.pointer (some ⟨W1.heap.size, 0, none⟩)]] W2 fun e w' => ∃ v, e = .returned v ∧ NRow w' W2.heap.size v (srt ts) ∧ Below W2.heap.size W2 w') := by
    refine SvI.sorted_seq W1.heap.size A0 c0 ts W2 S (LAt.below keepsI HV.out (chain BE.out B2.out) hS) (fun y hy => Nat.lt_of_lt_of_le (hS y hy) (chain BE.out B2.out).size) ?_ ?_ (by have := HTS.out; omega)
    · rw [← hW2, hsz]; omega
    · rw [← hW2]; exact cell_one_new _ _ _ 0 _ rfl
  clear hW1 HV
  go_upto_region 3 with (first | (go_at_call 34; refine (SvI.values_any A0 ts.length c0 W1).mono ?_; rintro e w5 ⟨rfl, rfl⟩; rw [hW2]; clear hW2) | (go_at_call 33; refine CS.out.mono ?_; rintro e w3 ⟨v3, rfl, h3, b3⟩; have R3 := Seg.hid h3; have B3 := Seg.hid (chain B2.out b3); clear CS h3 b3) | (go_at_call 32; refine (SrI.compact_any v3 (srt ts) W2.heap.size w3 R3.out (by have := SL0.out; have := HTS.out; omega) (compact_len _)).mono ?_; rintro e wa ⟨va, rfl, h1, h2, h3⟩; have RA := Seg.hid h1; have BA : Hid (Below W1.heap.size W1 wa) := B3.out.grown h2 B3.out.size (fun y hy => by have := (row_lt R3.out y hy).1; have := B2.out.size; omega); obtain ⟨A, c, rfl⟩ := row_form h1; clear h1 h2 h3))
  clear R3 B3
  have BW : Hid (Below w.heap.size w wa) := chain BE.out BA.out
  have LU : Hid ((Lib.compact (srt ts)).length ≤ 3000) := by show _ ≤ _; have := compact_len (srt ts); have := SL0.out; have := HTS.out; omega
  generalize hus : Lib.compact (srt ts) = us at *
  have HO : Hid (∀ j, j < us.length → ∃ y, A = some ⟨y, 0, none⟩ ∧ wa.cell? ⟨y, j, none⟩ = some (.int .i64 (us.getD j default)) ∧ us.length ≤ c) := fun j hj => by
    obtain ⟨y, cap, e1, e2, e3, e4, e5, e6⟩ := NRow.open RA.out (by omega)
    cases e1
    exact ⟨y, rfl, e4 j hj, e6⟩
  have AP0 : Hid (Ap A wa wa (.slice (some ⟨w.heap.size, 0, none⟩) 0 0)) := ⟨Nat.le_refl _, fun y hy => ⟨(row_lt RA.out y (by rw [hy]; rfl)).2, rfl⟩, fun y hy e => by
    have h1 := (row_lt RA.out y (by rw [hy]; rfl)).1
    have h2 : w.heap.size = y := by injection e
    have := B2.out.size
    have := HW1.out
    omega⟩
  have E2 : Hid (NRow wa w.heap.size (.slice (some ⟨w.heap.size, 0, none⟩) 0 0) []) := NRow.keep E1.out BA.out
  have HT : Hid (us.all inT = true) := HM0.out
  have hl := LU.out
  clear RA BA B2 HM0 E1 BE SL0 HTS LU HW1 HT0
  go_wp2
  go_loopw [7, 20] (fun u i wr => ∃ (k : Nat) (st : List Int), i = .int .i64 k ∧ Hid (Hp A wa w wr size every us k u st)) (fun _ i _ => us.length - (intOf i).toNat)
  case atStart => exact ⟨0, [], rfl, Nat.zero_le _, Nat.le_refl _, E2.out, rfl, BW.out, AP0.out⟩
  case round =>
  clear E2 AP0
  obtain ⟨k, st, rfl, HG⟩ := hrel
  have hk := HG.out.le
  by_cases hlt : k < us.length
  · obtain ⟨g, rfl, hcell, hc⟩ := HO.out k hlt
    have d0 : wr.cell? ⟨g, k, none⟩ = some (.int .i64 (us.getD k default)) := by
      rw [World.cell?_of_block (w := wa) (a := ⟨g, k, none⟩) (HG.out.ap.row g rfl).2]
      exact hcell
    clear hcell
    have h0 : (0 : Int) ≤ (k : Int) := by omega
    have h1 : (k : Int) < (us.length : Int) := by omega
    have T0 : Hid (inT (us.getD k default) = true) := by
      have := List.all_eq_true.1 HT.out us[k] (List.getElem_mem hlt)
      show _ = _
      simpa [hlt] using this
    have NX := Seg.hid (sta_next size every hlt)
    generalize us.getD k default = t at *
    have t0 : 0 ≤ t ∧ t ≤ 1000000000000 := by have := T0.out; unfold inT at this; simpa using this
    have FS0 := Seg.hid (far_start t0.1 (by omega : 0 < every) HSE.out)
    have tm : 0 ≤ t % every ∧ t % every < every := ⟨Int.emod_nonneg t (by omega), Int.emod_lt_of_pos t (by omega)⟩
    have tl : t % every ≤ t := by
      have h2 : 0 ≤ every * (t / every) := Int.mul_nonneg (by omega) (Int.ediv_nonneg t0.1 (by omega))
      have := Int.emod_add_mul_ediv t every
      omega
    obtain ⟨s0, hs0⟩ : ∃ s0, t - t % every = s0 := ⟨_, rfl⟩
    have ws : wrap64 (t - t % every) = s0 := by rw [hs0]; unfold wrap64; omega
    have s0le : s0 ≤ t := by omega
    have HS0 := Seg.hid hs0
    clear hs0
    obtain ⟨tar, htar⟩ : ∃ tar, st ++ hopF size every t 21 s0 = tar := ⟨_, rfl⟩
    have TAR : Hid (tar = staL size every (us.take (k + 1))) := by show _ = _; rw [← htar, NX.out, ← HG.out.eq]; unfold hopL; rw [HS0.out]
    have Q0 : Hid (Hq (some ⟨g, 0, none⟩) wa w wr size every tar t s0 k u7 st) := ⟨⟨21, htar, by have := FS0.out; rw [HS0.out] at this; exact this, by have := HG.out.few; omega, s0le⟩, HG.out.lie, HG.out.bel, HG.out.ap⟩
    clear htar NX FS0 HG T0
    go_wp2
    go_loopw [7, 10] (fun u s wq => ∃ (s9 : Int) (st : List Int), s = .int .i64 s9 ∧ Hid (Hq (some ⟨g, 0, none⟩) wa w wq size every tar t s9 k u st)) (fun _ s _ => (intOf s + 1 - (t - size)).toNat)
    case atStart => exact ⟨s0, st, by first | rfl | (rw [ws]; done) | rw [HS0.out], Q0.out⟩
    case round =>
    clear Q0 HS0 s0le ws d0
    obtain ⟨s9, st9, rfl, HQ⟩ := hrel
    obtain ⟨n, q1, q2, q3, q4⟩ := HQ.out.some
    have LQ := Seg.hid HQ.out.lie
    have BQ := Seg.hid HQ.out.bel
    have AQ := Seg.hid HQ.out.ap
    clear HQ
    obtain ⟨A9, c9, rfl⟩ := row_form LQ.out
    by_cases hin : 0 ≤ s9 ∧ t - size < s9
    · obtain ⟨in0, in1⟩ := hin
      match n, q1, q2, q3 with
      | 0, q1, q2, q3 => exact absurd (far_end q2) (by omega)
      | n + 1, q1, q2, q3 =>
      rw [hop_in in0 in1] at q1
      have F2 := Seg.hid (far_next q2)
      have Q1 : Hid ((st9 ++ [s9]) ++ hopF size every t n (s9 - every) = tar) := by show _ = _; rw [← q1]; simp
      have wt : IntKind.i64.wrap (t - size) = t - size := by rw [IntKind.wrap_i64]; omega
      have wn : IntKind.i64.wrap (s9 - every) = s9 - every := by rw [IntKind.wrap_i64]; omega
      have ws0 : w.heap.size ≤ wr.heap.size := BQ.out.size
      clear q1 q2
      have OW : Hid (∀ ob, (wr.alloc ob).ownsRow w.heap.size 3 1 (.slice A9 st9.length c9) st9.length (st9.map (Value.int .i64))) := fun ob => LQ.out.keep (below1 wr ob)
      go_wp2_with (at_builtin; (refine wpList_append_lies _ rfl _ _ 29 rfl w.heap.size 3 i0 _ 1 8 Try.underlying29 hi hz0 hz1 hz2 rfl (by decide) (.slice A9 st9.length c9) st9.length (st9.map (Value.int .i64)) rfl (OW.out _) ⟨wr.heap.size, 0, none⟩ 1 1 [.int .i64 s9] rfl rfl (World.news_of_block (cs := #[.int .i64 s9]) (heap_alloc_new _ _)) (by simp [Value.oneCell']) (by decide) (by unfold maxLen; omega) (by omega) (by rw [hsz]; omega) (wr.heap.size + 1) (by rw [hsz]) ?_; intro g9 cap9 w9 hown9 gr9 hat9 hlt9; have RN := Seg.hid (NRow.put hown9); have AN := Seg.hid (AQ.out.step (n := st9.length + 1) (c := cap9) gr9 hat9); have B9 : Hid (Below w.heap.size w w9) := (chain BQ.out (below1 wr _)).grown gr9 (by rw [hsz]; have := BQ.out.size; omega) (fun y hy => by have := (World.ownsRow.lt LQ.out y hy).1; omega); clear hown9 gr9 hat9 hlt9))
      go_roundw
      case rel => exact ⟨s9 - every, st9 ++ [s9], by first | rfl | rw [wn], ⟨n, Q1.out, by have := F2.out; omega, by rw [List.length_append, List.length_singleton]; omega, by omega⟩, RN.out, B9.out, AN.out⟩
      case measure => simp [intOf]; omega
    · have hx : Hid (st9 = staL size every (us.take (k + 1))) := by show _ = _; rw [← TAR.out, ← q1, hop_out hin, List.append_nil]
      have few : st9.length ≤ 21 * (k + 1) := by omega
      have wt : IntKind.i64.wrap (t - size) = t - size := by rw [IntKind.wrap_i64]; omega
      clear q1 q2 q3
      by_cases hin0 : 0 ≤ s9
      · have hin1 : s9 ≤ t - size := by omega
        clear hin
        go_wp2
        go_roundw
        case rel => exact ⟨k + 1, st9, by go_num, by omega, few, LQ.out, hx.out, BQ.out, AQ.out⟩
        case measure => simp [intOf]; omega
      · clear hin
        go_wp2
        go_roundw
        case rel => exact ⟨k + 1, st9, by go_num, by omega, few, LQ.out, hx.out, BQ.out, AQ.out⟩
        case measure => simp [intOf]; omega
  · have hkl : k = us.length := by omega
    have ST : Hid (st = staL size every us) := by show _ = _; rw [HG.out.eq, hkl, List.take_length]
    have few : st.length ≤ 63000 := by have := HG.out.few; omega
    have LQ := Seg.hid HG.out.lie
    have BQ := Seg.hid HG.out.bel
    have hx1 : ¬ (k : Int) < (us.length : Int) := by omega
    clear HG hkl
    go_upto_region 11 with (go_at_call 35; refine (SrI.sort_any _ st w.heap.size wr LQ.out (by omega)).mono ?_; rintro e w2 ⟨rfl, h1, h2⟩; have R2 := Seg.hid h1; have B2 : Hid (Below w.heap.size w w2) := BQ.out.grown h2 (by have := BQ.out.size; omega) (fun y hy => (row_lt LQ.out y hy).1); clear h1 h2)
    clear LQ BQ hx1 z1 z2
    obtain ⟨w3, hw3⟩ : ∃ w3, w2.alloc (.cells #[] 29 (0, 0)) = w3 := ⟨_, rfl⟩
    have B3 : Hid (Below w2.heap.size w2 w3) := by show Below _ _ _; rw [← hw3]; exact below1 _ _
    have O3 : Hid (w3.ownsRow w2.heap.size 29 1 (.slice (some ⟨w2.heap.size, 0, none⟩) 0 0) 0 []) := by
      show World.ownsRow _ _ _ _ _ _ _
      rw [← hw3]
      exact ⟨rfl, .inr ⟨w2.heap.size, 0, #[], rfl, Nat.le_refl _, heap_alloc_new _ _, by simp, by unfold maxLen; omega, by simp, by simp⟩⟩
    go_upto_region 12 with fail
    try rw [hw3]
    clear hw3
    have R3 := Seg.hid (R2.out.keep B3.out)
    have U7 : Hid (∀ y, u7.ownBlock = some y → w.heap.size ≤ y ∧ y < w2.heap.size) := fun y hy => row_lt R2.out y hy
    have HC : Hid (Lib.compact (srt st) = cutS size every ts) := by show _ = _; rw [ST.out, ← OO.out]; rfl
    have cl : (cutS size every ts).length ≤ 63000 := by rw [← HC.out]; have := compact_len (srt st); rw [srt_len] at this; omega
    have sl : (srt st).length ≤ 1048576 := by rw [srt_len]; omega
    obtain ⟨i1, hj, hy0, hy1, hy2⟩ := info_parts infoW
    go_upto_region 13 with (go_at_call 32; refine (SrI.compact_any _ (srt st) w.heap.size w3 R3.out sl (compact_len _)).mono ?_; rintro e w4 ⟨v4, rfl, h1, h2, h3⟩; rw [HC.out] at h1; obtain ⟨A4, c4, rfl⟩ := row_form h1; have R4 := Seg.hid h1; have G4 := Seg.hid h2; have V4 := Seg.hid h3; clear h1 h2 h3)
    have W4 : Hid (Below w.heap.size w w4) := ((chain B2.out B3.out).grown G4.out (by have := (chain B2.out B3.out).size; omega) (fun y hy => (U7.out y hy).1))
    have O4 : Hid (w4.ownsRow w2.heap.size 29 1 (.slice (some ⟨w2.heap.size, 0, none⟩) 0 0) 0 []) := Ow.own_keep O3.out (fun y h1 h2 => G4.out.block y h2 (fun e => by have := (U7.out y e.symm).2; omega))
    have s4 : w2.heap.size ≤ w4.heap.size := by have := B3.out.size; have := G4.out.size; omega
    have A4B : Hid (∀ y, A4 = some ⟨y, 0, none⟩ → y < w2.heap.size) := fun y hy => by
      refine (U7.out y ?_).2
      rw [← V4.out, hy]; rfl
    have CM : Hid (∀ j, j < (cutS size every ts).length → 0 ≤ (cutS size every ts).getD j default ∧ (cutS size every ts).getD j default ≤ 1000000000000) := fun j hj => by
      refine cut_mem (size := size) (every := every) (ts := us) (by omega) HT.out ?_
      rw [OO.out]
      rw [List.getD_eq_getElem?_getD, List.getElem?_eq_getElem hj]
      exact List.getElem_mem hj
    have C4 : Hid (∀ j, j < (cutS size every ts).length → ∃ y, A4 = some ⟨y, 0, none⟩ ∧ w4.cell? ⟨y, j, none⟩ = some (.int .i64 ((cutS size every ts).getD j default)) ∧ (cutS size every ts).length ≤ c4) := fun j hj => by
      obtain ⟨y, cap, e1, e2, e3, e4, e5, e6⟩ := NRow.open R4.out (by omega)
      cases e1
      exact ⟨y, rfl, e4 j hj, e6⟩
    have WB : Hid (w.heap.size ≤ w2.heap.size) := B2.out.size
    clear R2 B2 B3 O3 R3 U7 sl G4 V4 ST few
    generalize hcs : cutS size every ts = cs at *
    have HCS := Seg.hid hcs
    clear hcs
    obtain ⟨b2, hb2⟩ : ∃ b2, w2.heap.size = b2 := ⟨_, rfl⟩
    rw [hb2] at O4 s4 A4B WB ⊢
    clear hb2
    go_wp2
    go_loopw [11, 52] (fun v i wr => ∃ k : Nat, i = .int .i64 k ∧ Hid (Hw b2 w4 wr size cs k v)) (fun _ i _ => cs.length - (intOf i).toNat)
    case atStart => exact ⟨0, rfl, Nat.zero_le _, Ow.LGrow.empty O4.out, Below.refl _ _⟩
    case round =>
    clear O4
    obtain ⟨k, rfl, HG⟩ := hrel
    have hk := HG.out.le
    by_cases hlt : k < cs.length
    · obtain ⟨gc, rfl, hcell, hcap⟩ := C4.out k hlt
      obtain ⟨p0, p1⟩ := CM.out k hlt
      have d0 : wr.cell? ⟨gc, k, none⟩ = some (.int .i64 (cs.getD k default)) := by
        rw [World.cell?_of_block (w := w4) (a := ⟨gc, k, none⟩) (HG.out.bel.block gc (A4B.out gc rfl))]
        exact hcell
      obtain ⟨s, hs0⟩ : ∃ s, cs.getD k default = s := ⟨_, rfl⟩
      have HS0 := Seg.hid hs0
      rw [hs0] at p0 p1 d0
      clear hs0 hcell
      obtain ⟨A7, c7, hv⟩ := HG.out.gro.form
      obtain ⟨v7, hv7⟩ : ∃ v7, v7 = u11 := ⟨_, rfl⟩
      rw [← hv7] at HG hv ⊢
      clear hv7
      subst hv
      obtain ⟨F7, P7, LG0⟩ := HG.out.gro
      have LG := Seg.hid LG0
      have BL := Seg.hid HG.out.bel
      have LK := Seg.hid (win_len size (Nat.le_of_lt hlt))
      have b4 : b2 ≤ wr.heap.size := by have := HG.out.bel.size; omega
      clear LG0 HG
      have OWN : Hid (∀ o1 o2, ((wr.alloc o1).alloc o2).ownsRow b2 29 1 (.slice A7 (winW size (cs.take k)).length c7) (winW size (cs.take k)).length ((List.range ((winW size (cs.take k)).length * 1)).map F7)) := fun o1 o2 => Ow.own_keep LG.out.own (fun y _ hy => (chain (below1 wr o1) (below1 _ o2)).block y hy)
      have z0 : (0 : Int) ≤ (k : Int) := by omega
      have z1 : (k : Int) < (cs.length : Int) := by omega
      have wn : IntKind.i64.wrap (s + size) = s + size := by rw [IntKind.wrap_i64]; omega
      go_wp2_with (at_builtin; (refine wpList_append_lies _ rfl _ _ 32 rfl b2 29 i1 _ 1 24 Try.underlying32 hj hy0 hy1 hy2 rfl (by decide) (.slice A7 (winW size (cs.take k)).length c7) (winW size (cs.take k)).length ((List.range ((winW size (cs.take k)).length * 1)).map F7) rfl (OWN.out _ _) ⟨_, 0, none⟩ 1 1 [.slice (some ⟨wr.heap.size, 0, none⟩) 2 2] rfl rfl (World.news_of_block (cs := #[.slice (some ⟨wr.heap.size, 0, none⟩) 2 2]) (new2 _ _ _)) (by simp [Value.oneCell']) (by decide) (by have := LK.out; unfold maxLen; omega) (by have := LK.out; omega) (by rw [hsz, hsz]; omega) _ rfl ?_; intro g9 cap9 w9 hown9 gr9 hat9 hlt9; have NX := Seg.hid (nx hlt LG.out BL.out b4 HS0.out hown9 gr9 hat9); clear hown9 gr9 hat9 hlt9))
      go_roundw
      case rel => exact ⟨k + 1, by go_num, NX.out⟩
      case measure => simp [intOf]; omega
    · have hkl : k = cs.length := by omega
      have LG : Hid (Ow.LGrow 29 1 Ow.EOI2 wr b2 u11 (winW size cs)) := by have := HG.out.gro; rw [hkl, List.take_length] at this; exact this
      have BL := Seg.hid HG.out.bel
      have z1 : ¬ (k : Int) < (cs.length : Int) := by omega
      clear hkl HG
      go_wp2
      go_ret
      exact ⟨u11, rfl, ⟨b2, WB.out, by rw [HCS.out]; exact LG.out⟩, ⟨BL.out.os.trans W4.out.os, BL.out.tape.trans W4.out.tape, BL.out.output.trans W4.out.output, Nat.le_trans W4.out.size BL.out.size, fun y hy => (BL.out.block y (Nat.lt_of_lt_of_le hy WB.out)).trans (W4.out.block y hy)⟩⟩
end Go.Proofs.Ytkohhcjpjloaaaa.WnI
