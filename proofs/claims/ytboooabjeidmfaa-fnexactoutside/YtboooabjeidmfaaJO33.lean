/- What the model's Inside asks, plain: it comes to what the program's comes to. -/
import Derived.Test.YtboooabjeidmfaaJO18
import Derived.Test.YtboooabjeidmfaaJO17
namespace Go.Proofs.Ytboooabjeidmfaa.IsP
set_option maxRecDepth 8000
open Go.RowKit
open Ls Lp QyP QsP QtP QuP YcP YsP YtP QsI XsP XqP XqQ YvP YzP
set_option linter.unusedVariables false
theorem at_or (l : List Src) (n : ByteArray) : (srcAt l n = -1 ∧ srcF l n = none) ∨ ∃ k, k < l.length ∧ srcAt l n = (k : Int) ∧ srcF l n = some (l.getD k default) := by
  unfold srcAt srcF
  cases h : l.findIdx? (fun s => s.name.toList == n.toList) with
  | none =>
    refine .inl ⟨rfl, ?_⟩
    rw [List.findIdx?_eq_none_iff] at h
    exact List.find?_eq_none.2 fun s hs => by simp [h s hs]
  | some k =>
    rw [List.findIdx?_eq_some_iff_getElem] at h
    obtain ⟨hk, hp, hl⟩ := h
    refine .inr ⟨k, hk, rfl, ?_⟩
    rw [List.find?_eq_some_iff_getElem]
    refine ⟨by simpa [hk] using hp, k, hk, by simp [hk], fun j hj => by simpa using hl j hj⟩
theorem at_congr {l : List Src} {n m : ByteArray} (h : n.toList = m.toList) : srcAt l n = srcAt l m := by unfold srcAt; rw [h]
def CCq (q : Qry) (l : List Src) : List ByteArray := if em q.on = true then (srcR l q.fr).cols else jnL q.on (srcR l q.fr).cols (bsR q l).cols
/-- The name of the source beside From's. -/
def nnq (q : Qry) : ByteArray := if em q.jn = true then q.lk else q.jn
theorem em_toList {t : ByteArray} (h : em t = true) : t.toList = [] := by simpa [em] using h
theorem on_em {q : Qry} (h : qOk q = true) : em q.on = (em q.jn && em q.lk) ∧ ((em q.jn || em q.lk) = true) := by
  simp only [qOk, Bool.and_eq_true] at h
  have hb := h.2.1
  have hj := @em_name q.jn
  have hl := @em_name q.lk
  have ho := @em_name q.on
  unfold beP at hb
  generalize em q.jn = a at *
  generalize em q.lk = b at *
  generalize em q.on = c at *
  generalize Nm.nameOk q.jn = d at *
  generalize Nm.nameOk q.lk = e at *
  generalize Nm.nameOk q.on = f at *
  generalize decide (q.wn = 0) = g at *
  generalize inR 0 q.wn 1000000000000 = i at *
  clear h
  revert a b c d e f g i
  decide
theorem nn_list {q : Qry} (h : qOk q = true) : (q.jn ++ q.lk).toList = (nnq q).toList := by
  have h2 := (on_em h).2
  have e : (q.jn ++ q.lk).toList = q.jn.toList ++ q.lk.toList := by
    rw [ByteArray.toList_eq, ByteArray.toList_eq, ByteArray.toList_eq]
    simp
  rw [e]
  unfold nnq
  by_cases hj : em q.jn = true
  · rw [if_pos hj, em_toList hj]; rfl
  · rw [if_neg hj]
    have : em q.lk = true := by cases hl : em q.lk with | true => rfl | false => rw [hl] at h2; simp at h2; exact absurd h2 hj
    rw [em_toList this]; simp
theorem bsR_nn (q : Qry) (l : List Src) : bsR q l = srcR l (nnq q) := by
  unfold bsR nnq
  split <;> rfl
/-- The source beside is as it has to be: one that lies there, a table for Lookup alone, with the column On, the first one of a table. -/
theorem bsB_eq {q : Qry} {l : List Src} (hq : qOk q = true) (hl : srcsOk l = true) : bsB q l = (srcB l (nnq q) (!em q.lk) && (hasT (bsR q l).cols q.on && (em q.lk || hd (bsR q l).cols q.on))) ∨ (em q.jn && em q.lk) = true := by
  have h2 := (on_em hq).2
  rw [bsR_nn]
  unfold bsB nnq
  by_cases hj : em q.jn = true
  · rw [if_pos hj, if_pos hj]
    cases hlk : em q.lk with
    | true => right; rw [hj]; rfl
    | false =>
      left
      cases hb : srcB l q.lk true with
      | false => simp [hb]
      | true =>
        have hc := (ok_cols (b_ok hl hb)).1
        simp only [Bool.not_false, hb, Bool.true_and, Bool.false_or]
        cases hh : hd (srcR l q.lk).cols q.on with
        | false => simp
        | true =>
          have : hasT (srcR l q.lk).cols q.on = true := hasT_hit hc hh
          rw [this]; rfl
  · rw [if_neg hj, if_neg hj]
    have : em q.lk = true := by cases hl2 : em q.lk with | true => rfl | false => rw [hl2] at h2; simp at h2; exact absurd h2 hj
    left
    rw [this]
    simp
theorem names_ok {s : Src} (h : srcOk s = true) : s.cols.all Nm.nameOk = true ∧ diff s.cols = true := by
  simp only [srcOk, Bool.and_eq_true] at h
  exact ⟨h.2.2.2, h.2.2.1⟩
def endB (q : Qry) (C : List ByteArray) : Bool := diff C && (decide (C.length ≤ 12) && (sees q.wh C && (q.gps.all (hasT C) && q.gets.all (fun g => sees g.steps C))))
theorem allT_app (C a b : List ByteArray) : allT C (a ++ b) = (allT C a && allT C b) := by unfold allT; rw [List.all_append]
theorem allT_gc (C : List ByteArray) : ∀ gs : List Gqt, allT C (gcL gs) = gs.all (fun g => sees g.steps C)
  | [] => rfl
  | g :: gs => by
    have e : gcL (g :: gs) = colsL g.steps ++ gcL gs := by unfold gcL; rw [List.flatMap_cons]
    rw [e, allT_app, all_sees, allT_gc C gs, List.all_cons]
theorem allT_cols (q : Qry) (C : List ByteArray) : allT C (colsQ q) = (sees q.wh C && (q.gps.all (hasT C) && q.gets.all (fun g => sees g.steps C))) := by
  rw [cols_q, allT_app, allT_app, all_sees, allT_gc, Bool.and_assoc]
  rfl
/-- What comes out where all sources are as they have to be. -/
theorem in_end {q : Qry} {l : List Src} (hq : qOk q = true) (hl : srcsOk l = true) (hf : srcB l q.fr false = true) (hb : em q.on = true ∨ (bsB q l = true ∧ hasT (srcR l q.fr).cols q.on = true)) : inside q l = if endB q (CCq q l) = true then CCq q l else [] := by
  have s1 := b_ok hl hf
  have n1 := names_ok s1
  have e1 := on_em hq
  have lc := (ok_cols s1).2
  unfold inside
  rw [hq, hl, show (true && true) = true from rfl, if_pos rfl, allT_cols]
  unfold endB CCq
  by_cases ho : em q.on = true
  · rw [if_pos ho]
    rw [ho] at e1
    have hse : seB q l = true := by unfold seB; rw [hf, ← e1.1]; rfl
    have hsr : seR q l = (srcR l q.fr).cols := by unfold seR; rw [if_pos hf, if_pos e1.1.symm]
    rw [hse, hsr, n1.2, decide_eq_true lc]
    simp only [Bool.true_and]
  · rw [if_neg ho]
    obtain ⟨hb1, hb2⟩ := hb.resolve_left ho
    have hjl : (em q.jn && em q.lk) = false := by rw [← e1.1]; simpa using ho
    have s2 : srcOk (bsR q l) = true := by
      unfold bsB at hb1
      unfold bsR
      by_cases hj : em q.jn = true
      · rw [if_pos hj] at hb1 ⊢
        simp only [Bool.and_eq_true] at hb1
        exact b_ok hl hb1.1
      · rw [if_neg hj] at hb1 ⊢
        simp only [Bool.and_eq_true] at hb1
        exact b_ok hl hb1.1
    have n2 := names_ok s2
    have hall : (jnL q.on (srcR l q.fr).cols (bsR q l).cols).all Nm.nameOk = true := by
      unfold jnL
      rw [List.all_append, n1.1, Bool.true_and]
      exact List.all_eq_true.2 fun x hx => List.all_eq_true.1 n2.1 x (List.mem_filter.1 hx).1
    have hse : seB q l = cOk (jnL q.on (srcR l q.fr).cols (bsR q l).cols) := by unfold seB jnB; rw [hf, hjl, hb1, hb2]; rfl
    have hsr : seR q l = jnL q.on (srcR l q.fr).cols (bsR q l).cols := by unfold seR jnR; rw [if_pos hf, hjl, if_neg (by decide), if_pos hb1, if_pos hb2]
    rw [hse, hsr]
    unfold cOk
    rw [hall]
    generalize jnL q.on (srcR l q.fr).cols (bsR q l).cols = C
    cases diff C <;> cases decide (C.length ≤ 12) <;> simp
theorem in_nil {q : Qry} {l : List Src} (h : seB q l = false) : inside q l = [] := by
  unfold inside
  rw [h]
  simp
theorem se_nil {q : Qry} {l : List Src} (h : srcB l q.fr false = false) : seB q l = false := by unfold seB; rw [h]; rfl
theorem se_nil2 {q : Qry} {l : List Src} (ho : (em q.jn && em q.lk) = false) (h : bsB q l = false) : seB q l = false := by unfold seB; rw [ho, h]; simp
theorem se_nil3 {q : Qry} {l : List Src} (ho : (em q.jn && em q.lk) = false) (h : hasT (srcR l q.fr).cols q.on = false) : seB q l = false := by unfold seB jnB; rw [ho, h]; simp
end Go.Proofs.Ytboooabjeidmfaa.IsP
