/- ParseRules of the program. -/
import Derived.Test.YtaninhajnfgkkaaDoorPaY
import Derived.Laws.RangeAny
import Derived.Deep.AppendLies
import Derived.Scope
namespace Go.Proofs.YtaninhajnfgkkaaDoor.PaI
set_option maxRecDepth 8000
open Go.RowKit
open Ls Lp RuP TxP PrP PaP
open Recs (hsz below1 below2 chain)
set_option linter.unusedVariables false
/-- A range over a text whose place lies anywhere. -/
theorem next_at {P : Program} (w : World) (g : Nat) (s : ByteArray) (pos : Nat) (ty : TypeId) (hg : w.heap[g]? = some (.stringIter s pos)) (h : pos < s.size) :
    (Instr.next (.pointer (some ⟨g, 0, none⟩)) true ty).run P w = .ok (.tuple #[.bool true, .int .i64 pos, .int .i32 (Utf8.decode s pos).1]) { w with heap := w.heap.setIfInBounds g (.stringIter s (pos + (Utf8.decode s pos).2)) } := by
  simp only [Instr.next, getObj, setObj, Sem.run_bind, Sem.run, hg, Result.andThen, h, if_true]
  simp [goInt]
theorem end_at {P : Program} (w : World) (g : Nat) (s : ByteArray) (pos : Nat) (ty : TypeId) (hg : w.heap[g]? = some (.stringIter s pos)) (h : ¬ pos < s.size) :
    (Instr.next (.pointer (some ⟨g, 0, none⟩)) true ty).run P w = .ok (.tuple #[.bool false]) w := by
  simp [Instr.next, getObj, Sem.run, hg, h]
/-- What stands between two runes: where the range is, what was read. -/
structure SI (w wr : World) (gi : Nat) (t : ByteArray) (pos : Nat) (v : Value) (out : List Rul) : Prop where
  it : wr.heap[gi]? = some (.stringIter t pos)
  own : RRow wr w.heap.size v out
  bel : Below w.heap.size w wr
  ge : w.heap.size ≤ gi
theorem SI.next {w wr w' : World} {gi : Nat} {t : ByteArray} {pos : Nat} {v : Value} {out : List Rul} (h : SI w wr gi t pos v out) (b : Below wr.heap.size wr w') : SI w w' gi t pos v out :=
  ⟨(b.block _ (Array.getElem?_eq_some_iff.1 h.it).1).trans h.it, rkeep h.own fun g _ hg => b.block g hg, chain h.bel b, h.ge⟩
theorem SI.step {w wr : World} {gi : Nat} {t : ByteArray} {pos : Nat} {v : Value} {out : List Rul} (h : SI w wr gi t pos v out) (p' : Nat) : SI w { wr with heap := wr.heap.setIfInBounds gi (.stringIter t p') } gi t p' v out := by
  have hlt := (Array.getElem?_eq_some_iff.1 h.it).1
  have ho : ∀ k, k ≠ gi → (wr.heap.setIfInBounds gi (.stringIter t p'))[k]? = wr.heap[k]? := fun k hk => Array.getElem?_setIfInBounds_ne (by omega)
  refine ⟨?_, ⟨h.own.1, ?_⟩, ⟨h.bel.os, h.bel.tape, h.bel.output, ?_, fun k hk => ?_⟩, h.ge⟩
  · show (wr.heap.setIfInBounds gi (.stringIter t p'))[gi]? = _
    simp [hlt]
  · rcases h.own.2 with hn | ⟨g', cap, cur, h1, hbs, hgg, rest⟩
    · exact .inl hn
    · refine .inr ⟨g', cap, cur, h1, hbs, ?_, rest⟩
      show (wr.heap.setIfInBounds gi (.stringIter t p'))[g']? = _
      rw [ho g' (fun e => by rw [e, h.it] at hgg; cases hgg)]
      exact hgg
  · show w.heap.size ≤ (wr.heap.setIfInBounds gi (.stringIter t p')).size
    rw [Array.size_setIfInBounds]; exact h.bel.size
  · show (wr.heap.setIfInBounds gi (.stringIter t p'))[k]? = _
    rw [ho k (by have := h.ge; omega)]
    exact h.bel.block k hk
theorem SI.ownB {w wr : World} {gi : Nat} {t : ByteArray} {pos : Nat} {v : Value} {out : List Rul} (h : SI w wr gi t pos v out) : ∀ x, v.ownBlock = some x → w.heap.size ≤ x ∧ x ≠ gi := fun x hx => by
  rcases h.own.2 with ⟨h1, _⟩ | ⟨g', cap, cur, h1, h2, h3, _⟩
  · rw [h1] at hx; cases hx
  · rw [h1] at hx
    have e1 : g' = x := Option.some.inj hx
    exact ⟨e1 ▸ h2, fun e => by rw [e1, e, h.it] at h3; cases h3⟩
theorem SI.form {w wr : World} {gi : Nat} {t : ByteArray} {pos : Nat} {v : Value} {out : List Rul} (h : SI w wr gi t pos v out) : ∃ A c, v = .slice A out.length c := by
  rcases h.own.2 with ⟨h1, h2⟩ | ⟨g, cap, cur, h1, _⟩
  · exact ⟨none, 0, by rw [h1, h2]⟩
  · exact ⟨_, cap, h1⟩
theorem SI.push {w wr w9 : World} {gi : Nat} {t : ByteArray} {pos : Nat} {v v' : Value} {out : List Rul} {o : Obj} {r : Rul} (h : SI w wr gi t pos v out) (hown : w9.ownsRow w.heap.size 33 6 v' (out.length + 1) (rcells out ++ (rrow r).toList)) (gr : (wr.alloc o).grownBy w9 v.ownBlock) : SI w w9 gi t pos v' (out ++ [r]) := by
  have hlt := (Array.getElem?_eq_some_iff.1 h.it).1
  refine ⟨?_, by show w9.ownsRow _ _ _ _ _ _; rw [List.length_append, rcells_app]; exact hown, (chain h.bel (below1 wr o)).grown gr (by rw [hsz]; have := h.bel.size; omega) (fun x hx => (h.ownB x hx).1), h.ge⟩
  rw [gr.block gi (by rw [hsz]; omega) (fun e => (h.ownB gi e.symm).2 rfl), (below1 wr o).block _ hlt]
  exact h.it
theorem SI.cell0 {w wr : World} {gi : Nat} {t : ByteArray} {pos : Nat} {v : Value} {out : List Rul} {m : Value} (h : SI w wr gi t pos v out) (hm : w.cell? ⟨0, 0, none⟩ = some m) : wr.cell? ⟨0, 0, none⟩ = some m := (h.bel.cell (cell_pos hm)).trans hm
/-- The scanner's answer. -/
structure Sn (t : ByteArray) (w : World) (e : Ending) (w' : World) : Prop where
  ex : ∃ (v : Value) (out : List Rul) (all : Bool), e = .returned (.tuple #[v, .bool all]) ∧ RRow w' w.heap.size v out ∧ out.length ≤ 100 ∧ parse t = (if all = true then (out, 0) else ([], ((out.length + 1 : Nat) : Int))) ∧ Below w.heap.size w w'
set_option maxHeartbeats 6400000 in
theorem scan_any (t : ByteArray) (m : Int) (w : World) (ht : t.size ≤ 4000) (hm : w.cell? ⟨0, 0, none⟩ = some (.int .i64 m)) :
    Calls Tryd.prog 15 #[.string t] w fun e w' => Sn t w e w' := by
  obtain ⟨i0, hi, hz0, hz1, hz2⟩ := info_parts infoZRul
  have HM := Seg.hid hm
  clear hm
  go_enter Tryd.func15, Tryd.ntmps15
  go_wp2_with fail
  refine wp_scope_straight ?_
  go_wp2_with fail
  refine wp_label ?_
  go_wp2_with fail
  have S0 : Hid (SI w ((w.alloc (.cells #[] 33 (0, 0))).iter t 0) (w.heap.size + 1) t 0 (.slice (some ⟨w.heap.size, 0, none⟩) 0 0) []) := by
    refine ⟨?_, ?_, ?_, by omega⟩
    · have := World.iter_heap (w.alloc (.cells #[] 33 (0, 0))) t 0
      rwa [hsz] at this
    · exact rkeep (rnew w w.heap.size (Nat.le_refl _)) (fun g _ hg => (below1 (w.alloc (.cells #[] 33 (0, 0))) _).block g hg)
    · exact below2 w _ _
  go_loopw [4, 5] (fun v b wr => ∃ (pos bg : Nat) (out : List Rul), b = .int .i64 bg ∧ bg ≤ pos ∧ pos ≤ t.size ∧ out.length ≤ 100 ∧ Hid (SI w wr (w.heap.size + 1) t pos v out ∧ Sc t pos bg out)) (fun _ _ wr => t.size - wr.iterPos (w.heap.size + 1))
  case atStart => exact ⟨0, 0, [], rfl, Nat.le_refl _, Nat.zero_le _, by simp, S0.out, Sc.start ht⟩
  case round =>
    clear S0
    obtain ⟨pos, bg, out, rfl, hbp, hpt, hol, HR⟩ := hrel
    by_cases hp : pos < t.size
    · have hnx0 : ∀ ty, (Instr.next (.pointer (some ⟨w.heap.size + 1, 0, none⟩)) true ty).run Tryd.prog wr = _ := fun ty => next_at wr (w.heap.size + 1) t pos ty HR.out.1.it hp
      have DL := dec_line t pos hp
      obtain ⟨n, hn⟩ : ∃ n, (Utf8.decode t pos).2 = n := ⟨_, rfl⟩
      obtain ⟨rn, hrn⟩ : ∃ rn, (Utf8.decode t pos).1 = rn := ⟨_, rfl⟩
      rw [hn, hrn] at DL
      rw [hn, hrn] at hnx0
      obtain ⟨wq, hwq⟩ : ∃ wq, ({ wr with heap := wr.heap.setIfInBounds (w.heap.size + 1) (.stringIter t (pos + n)) } : World) = wq := ⟨_, rfl⟩
      rw [hwq] at hnx0
      have SQ : Hid (SI w wq (w.heap.size + 1) t (pos + n) u4 out) := by show SI _ _ _ _ _ _ _; rw [← hwq]; exact HR.out.1.step (pos + n)
      have ME : Hid (wr.iterPos (w.heap.size + 1) = pos) := by show _ = _; unfold World.iterPos; rw [HR.out.1.it]
      have MQ : Hid (∀ wx, SI w wx (w.heap.size + 1) t (pos + n) u4 out → wx.iterPos (w.heap.size + 1) = pos + n) := fun wx h => by unfold World.iterPos; rw [h.it]
      have SC := Seg.hid HR.out.2
      have hnx := hnx0
      clear hn hrn hwq HR hnx0
      obtain ⟨d1, d2, d3⟩ := DL
      rcases d3 with ⟨rfl, rfl, h10⟩ | ⟨d3, d4⟩
      case inr =>
        have f1 : ((rn : Int) != 10) = true := by simp; omega
        have f2 : ((rn : Int) == 10) = false := by simp; omega
        have SK := Seg.hid (SC.out.skip d2 d4)
        have MM := Seg.hid (MQ.out wq SQ.out)
        clear d4 SC MQ
        go_wp2_with fail
        go_roundw
        case rel => exact ⟨pos + n, bg, out, rfl, by omega, d2, hol, SQ.out, SK.out⟩
        case measure => rw [MM.out, ME.out]; omega
      have H10 := Seg.hid h10
      clear h10
      obtain ⟨A, c, hv⟩ := SQ.out.form
      subst hv
      have STOP : Hid ((decide (out.length < 100) && rdOk (cutF 32 ((t.toList.drop bg).take (pos - bg)) [])) = false → ∀ wx, SI w wx (w.heap.size + 1) t (pos + 1) (.slice A out.length c) out → Sn t w (.returned (.tuple #[.slice A out.length c, .bool ((bg : Int) == (t.size : Int))])) wx) := fun hno wx hsi => by
        obtain ⟨q1, q2⟩ := SC.out.stop hp H10.out hno
        have e : ((bg : Int) == (t.size : Int)) = false := by rw [beq_eq_false_iff_ne]; omega
        exact ⟨⟨_, out, _, rfl, hsi.own, hol, by rw [e]; exact q1, hsi.bel⟩⟩
      by_cases hfull : out.length = 100
      · have F := Seg.hid (STOP.out (by rw [decide_eq_false (by omega)]; rfl) wq SQ.out)
        rw [hfull]
        rw [hfull] at F
        go_wp2_with fail
        go_ret2
        exact F.out
      have f3 : ((out.length : Int) == 100) = false := by rw [beq_eq_false_iff_ne]; omega
      have k0 : (0 : Int) ≤ (bg : Int) := by omega
      have k1 : (bg : Int) ≤ (pos : Int) := by omega
      have k2 : (pos : Int) ≤ (t.size : Int) := by omega
      have EX : Hid ((t.extract bg pos).toList = (t.toList.drop bg).take (pos - bg)) := by show _ = _; rw [extract_eq, bs_toList]
      have ES : Hid ((t.extract bg pos).size ≤ 1048576) := by show _ ≤ _; rw [← size_list, EX.out, List.length_take, List.length_drop, size_list]; omega
      have CR : Hid (Calls Tryd.prog 20 #[.string (t.extract bg pos)] wq fun e w' => e = .returned (.tuple #[.agg (rrow (rdR (cutF 32 ((t.toList.drop bg).take (pos - bg)) []))), .bool (rdOk (cutF 32 ((t.toList.drop bg).take (pos - bg)) []))]) ∧ Below wq.heap.size wq w') := by
        have := read_any (t.extract bg pos) m wq ES.out (SQ.out.cell0 HM.out)
        rw [EX.out] at this
        exact this
      have MORE : Hid (rdOk (cutF 32 ((t.toList.drop bg).take (pos - bg)) []) = true → Sc t (pos + 1) (pos + 1) (out ++ [rdR (cutF 32 ((t.toList.drop bg).take (pos - bg)) [])])) := fun ho => by
        have e : rdR (cutF 32 ((t.toList.drop bg).take (pos - bg)) []) = mkI (cutF 32 ((t.toList.drop bg).take (pos - bg)) []) := by
          have := ho
          simp only [rdOk, Bool.and_eq_true] at this
          rw [rdR, if_pos this.1]
        rw [e]
        exact SC.out.more hp H10.out (by omega) ho
      clear EX ES SC H10
      generalize cutF 32 ((t.toList.drop bg).take (pos - bg)) [] = ws at *
      generalize rdR ws = r at *
      cases hb : rdOk ws with
      | false =>
        have SP := Seg.hid (STOP.out (by rw [hb]; simp))
        rw [hb] at CR
        clear hb STOP MORE
        go_wp2_with (first | (go_at_call 20; refine CR.out.mono ?_; rintro e w8 ⟨rfl, b8⟩; have F8 := Seg.hid (fun o => SP.out (w8.alloc o) ((SQ.out.next b8).next (below1 w8 o))); clear b8))
        go_ret2
        exact F8.out _
      | true =>
        have SM := Seg.hid (MORE.out hb)
        rw [hb] at CR
        clear hb STOP MORE
        go_upto_region 8 with (first | (go_at_call 20; refine CR.out.mono ?_; rintro e w8 ⟨rfl, b8⟩; have S8 := Seg.hid (SQ.out.next b8); clear b8))
        obtain ⟨wa, hwa⟩ : ∃ wa, w8.alloc (.cells (rrow r) 33 (0, 0)) = wa := ⟨_, rfl⟩
        rw [hwa]
        have RA : Hid (wa.heap[w8.heap.size]? = some (.cells (rrow r) 33 (0, 0))) := by show _ = _; rw [← hwa]; exact heap_alloc_new _ _
        have SA : Hid (SI w wa (w.heap.size + 1) t (pos + 1) (.slice A out.length c) out) := by show SI _ _ _ _ _ _ _; rw [← hwa]; exact S8.out.next (below1 _ _)
        clear hwa S8
        have la : w8.heap.size < wa.heap.size := (Array.getElem?_eq_some_iff.1 RA.out).1
        have hww := SA.out.bel.size
        obtain ⟨⟨e0, e1, e2, e3, e4, e5⟩, _⟩ := sixR RA.out
        have OW : Hid (∀ o1, (wa.alloc o1).ownsRow w.heap.size 33 6 (.slice A out.length c) out.length (rcells out)) := fun o1 => (SA.out.next (below1 wa o1)).own
        have PU : Hid (∀ o1 w9 v', w9.ownsRow w.heap.size 33 6 v' (out.length + 1) (rcells out ++ (rrow r).toList) → (wa.alloc o1).grownBy w9 (Value.slice A out.length c).ownBlock → SI w w9 (w.heap.size + 1) t (pos + 1) v' (out ++ [r])) := fun o1 w9 v' h1 h2 => SA.out.push h1 h2
        have MM : Hid (∀ wx v' o', SI w wx (w.heap.size + 1) t (pos + 1) v' o' → wx.iterPos (w.heap.size + 1) = pos + 1) := fun wx v' o' h => by unfold World.iterPos; rw [h.it]
        have w1 : IntKind.i64.wrap ((pos : Int) + 1) = (pos : Int) + 1 := by rw [IntKind.wrap_i64] <;> omega
        go_wp2_with (first | (at_builtin; (refine wpList_append_lies _ rfl _ _ 22 rfl w.heap.size 33 i0 _ 6 64 Tryd.underlying22 hi hz0 hz1 hz2 rfl (by decide) (.slice A out.length c) out.length (rcells out) rfl (OW.out _) ⟨wa.heap.size, 0, none⟩ 1 1 (rrow r).toList rfl rfl (World.news_of_block (cs := rrow r) (heap_alloc_new _ _)) (by simp [Value.oneCell']) (by decide) (by unfold maxLen; omega) (by omega) (by rw [hsz]; omega) (wa.heap.size + 1) (by rw [hsz]) ?_; intro g9 cap9 w9 hown9 gr9 hat9 hlt9; have S9 := Seg.hid (PU.out _ _ _ hown9 gr9); clear hown9 gr9 hat9 hlt9)))
        go_roundw
        case rel => exact ⟨pos + 1, pos + 1, out ++ [r], by go_num, Nat.le_refl _, by omega, by rw [List.length_append]; simp only [List.length_cons, List.length_nil]; omega, S9.out, SM.out⟩
        case measure => rw [MM.out _ _ _ S9.out, ME.out]; omega
    · have hpe : pos = t.size := by omega
      have HD : Hid (parse t = (if ((bg : Int) == (t.size : Int)) = true then (out, 0) else ([], ((out.length + 1 : Nat) : Int)))) := by
        show _ = _
        have h2 := HR.out.2
        rw [hpe] at h2
        rw [h2.done]
        by_cases h : bg = t.size
        · rw [if_pos h, if_pos (by rw [h]; simp)]
        · rw [if_neg h, if_neg (by simp; omega)]
      have hnx : ∀ ty, (Instr.next (.pointer (some ⟨w.heap.size + 1, 0, none⟩)) true ty).run Tryd.prog wr = .ok (.tuple #[.bool false]) wr := fun ty => end_at wr (w.heap.size + 1) t pos ty HR.out.1.it hp
      have SE := Seg.hid HR.out.1
      obtain ⟨A, c, hv⟩ := SE.out.form
      subst hv
      have F : Hid (Sn t w (.returned (.tuple #[.slice A out.length c, .bool ((bg : Int) == (t.size : Int))])) wr) := ⟨⟨_, out, _, rfl, SE.out.own, hol, HD.out, SE.out.bel⟩⟩
      clear HR HD hpe
      go_wp2_with fail
      go_ret2
      exact F.out
theorem map_getD (l : List Value) (n : Nat) (h : l.length = n) : (List.range n).map (fun q => l.getD q default) = l := by
  subst h
  apply List.ext_getElem
  · simp
  · intro i h1 h2
    simp at h1
    simp [h1]
theorem row_own {wr : World} {base : Nat} {v : Value} {acc : List Rul} (h : RRow wr base v acc) (hn : acc.length ≤ 1048576) : Ow.RulsOwn wr (seg base wr.heap.size) v acc := by
  refine ⟨hn, ?_⟩
  rcases h.2 with ⟨h1, h2⟩ | ⟨g, cap, cur, h1, h2, h3, h4, h5, h6, h7⟩
  · exact ⟨none, 0, by rw [h1, h2], .inl h2⟩
  · refine ⟨_, cap, h1, .inr ⟨g, fun q => (rcells acc).getD q default, fun _ _ => False, rfl, ⟨h2, (Array.getElem?_eq_some_iff.1 h3).1⟩, fun i hi x hx => hx.elim, ⟨⟨by simp, .inr ⟨g, cap, cur, rfl, Nat.le_refl _, h3, h4, h5, h6, by rw [h7]; exact (map_getD _ _ (rcells_len acc)).symm⟩⟩, rfl, fun i hi => ?_, fun i hi x hx => hx.elim, fun i j hi hj hne x hx => hx.elim⟩⟩⟩
    have e : ∀ j, j < 6 → (rcells acc).getD (i * 6 + j) default = (rrow (acc.getD i default)).toList.getD j default := fun j hj => by
      rw [List.getD_eq_getElem?_getD, rcells_get hi hj]; rfl
    exact ⟨e 0 (by omega), e 1 (by omega), e 2 (by omega), e 3 (by omega), e 4 (by omega), e 5 (by omega)⟩
set_option maxHeartbeats 3200000 in
theorem impl_any (t : ByteArray) (m : Int) (w : World) (ht : t.size ≤ 1048576) (hm : w.cell? ⟨0, 0, none⟩ = some (.int .i64 m)) :
    Calls Tryd.prog 5 #[.string t] w fun e w' => ∃ r, e = .returned (.tuple #[r, .int .i64 (parse t).2]) ∧ Ow.RulsOwn w' (seg w.heap.size w'.heap.size) r (parse t).1 ∧ Below w.heap.size w w' := by
  have NO : Hid (∀ (w' : World) (A : Option Addr) (c : Nat) (q : Int), parse t = ([], q) → Below w.heap.size w w' → ∃ r, Ending.returned (.tuple #[.slice A 0 c, .int .i64 q]) = .returned (.tuple #[r, .int .i64 (parse t).2]) ∧ Ow.RulsOwn w' (seg w.heap.size w'.heap.size) r (parse t).1 ∧ Below w.heap.size w w') := fun w' A c q h b => ⟨.slice A 0 c, by rw [h], by rw [h]; exact Ow.LOwn.nil _ _ _ _, b⟩
  go_enter Tryd.func5, Tryd.ntmps5
  by_cases h4 : 4000 < t.size
  · have q1 : (4000 : Int) < (t.size : Int) := by omega
    have F := Seg.hid (fun o => NO.out (w.alloc o) (some ⟨w.heap.size, 0, none⟩) 0 1 (by rw [parse, if_pos h4]) (below1 w o))
    go_wp2_with fail
    go_ret2
    exact F.out _
  have q1 : ¬ (4000 : Int) < (t.size : Int) := by omega
  have CS := Seg.hid (scan_any t m w (by omega) hm)
  go_upto_region 4 with (first | (go_at_call 15; refine CS.out.mono ?_; rintro e w2 ⟨v, out, all, rfl, ro, hol, hp, b2⟩; have RO := Seg.hid ro; have HP := Seg.hid hp; have B2 := Seg.hid b2; clear ro hp b2))
  obtain ⟨A, c, hv⟩ : ∃ A c, v = .slice A out.length c := by
    rcases RO.out.2 with ⟨h1, h2⟩ | ⟨g, cap, cur, h1, _⟩
    · exact ⟨none, 0, by rw [h1, h2]⟩
    · exact ⟨_, cap, h1⟩
  subst hv
  cases all with
  | true =>
    have F : Hid (∃ r, Ending.returned (.tuple #[.slice A out.length c, .int .i64 0]) = .returned (.tuple #[r, .int .i64 (parse t).2]) ∧ Ow.RulsOwn w2 (seg w.heap.size w2.heap.size) r (parse t).1 ∧ Below w.heap.size w w2) := by
      have e : parse t = (out, 0) := HP.out
      exact ⟨_, by rw [e], by rw [e]; exact row_own RO.out (by show out.length ≤ _; omega), B2.out⟩
    go_wp2_with fail
    go_ret2
    exact F.out
  | false =>
    have F := Seg.hid (fun o => NO.out (w2.alloc o) (some ⟨w2.heap.size, 0, none⟩) 0 ((out.length : Int) + 1) (by have := HP.out; rw [if_neg (by decide)] at this; rw [this]; simp) (chain B2.out (below1 w2 o)))
    have w1 : IntKind.i64.wrap ((out.length : Int) + 1) = (out.length : Int) + 1 := by rw [IntKind.wrap_i64] <;> omega
    go_wp2_with fail
    go_ret2
    exact F.out _
end Go.Proofs.YtaninhajnfgkkaaDoor.PaI
