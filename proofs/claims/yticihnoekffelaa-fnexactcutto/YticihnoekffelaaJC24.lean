/- Parts of lists in memory; the parts of a right log; A whole slice, or nothing, appended onto nil or a row of the call's own; a row's cells as what is appended. -/
import Derived.Maps.AppendAt
import Derived.Deep.AppendLies
import Derived.Test.YticihnoekffelaaJC21
import Derived.Test.YticihnoekffelaaJC13
import Derived.Test.YticihnoekffelaaJC08
namespace Go.Proofs.Yticihnoekffelaa.Ft
set_option maxRecDepth 8000
open Go.RowKit
open Recs
open Bats SegW Segs LogW
open LgP (logOk inR)
set_option linter.unusedVariables false
theorem row_drop {w : World} {lo b s n c k g o : Nat} {f : Nat → Nat → Value} (h : Row w lo b s (.slice (some ⟨g, o, none⟩) n c) n f) (hk : k < n) : Row w lo b s (.slice (some ⟨g, o + k * s, none⟩) (n - k) (c - k)) (n - k) (fun i j => f (k + i) j) := by
  obtain ⟨h0, A, c', h1, h2⟩ := h
  simp only [Value.slice.injEq] at h1
  obtain ⟨rfl, _, rfl⟩ := h1
  obtain ⟨g', o', h3, h4, h5, h6, h7⟩ := h2.resolve_left (by omega)
  simp only [Option.some.injEq, Addr.mk.injEq] at h3
  obtain ⟨rfl, rfl, _⟩ := h3
  refine ⟨by omega, _, _, rfl, .inr ⟨g, o + k * s, rfl, h4, by omega, fun i hi j hj => ?_, h7⟩⟩
  rw [show o + k * s + i * s + j = o + (k + i) * s + j by rw [Nat.add_mul]; omega]
  exact h6 (k + i) (by omega) j hj
theorem row_take {w : World} {lo b s n c k : Nat} {A : Option Addr} {f : Nat → Nat → Value} (h : Row w lo b s (.slice A n c) n f) (hk : k ≤ n) : Row w lo b s (.slice A k c) k f := by
  obtain ⟨h0, A', c', h1, h2⟩ := h
  simp only [Value.slice.injEq] at h1
  obtain ⟨rfl, _, rfl⟩ := h1
  refine ⟨by omega, _, _, rfl, ?_⟩
  by_cases hz : k = 0
  · exact .inl hz
  obtain ⟨g', o', h3, h4, h5, h6, h7⟩ := h2.resolve_left (by omega)
  exact .inr ⟨g', o', h3, h4, by omega, fun i hi j hj => h6 i (by omega) j hj, h7⟩
theorem getD_drop {T : Type} [Inhabited T] (l : List T) (k i : Nat) : (l.drop k).getD i default = l.getD (k + i) default := by
  rw [List.getD_eq_getElem?_getD, List.getElem?_drop, ← List.getD_eq_getElem?_getD]
theorem getD_take {T : Type} [Inhabited T] (l : List T) (k i : Nat) (h : i < k) : (l.take k).getD i default = l.getD i default := by
  rw [List.getD_eq_getElem?_getD, List.getElem?_take_of_lt h, ← List.getD_eq_getElem?_getD]
theorem segs_drop {w : World} {lo b c k g o : Nat} {ss : List Sg} (h : SegsAt w lo b (.slice (some ⟨g, o, none⟩) ss.length c) ss) (hk : k < ss.length) : SegsAt w lo b (.slice (some ⟨g, o + k * 2, none⟩) (ss.length - k) (c - k)) (ss.drop k) := by
  obtain ⟨H, h1, h2⟩ := h
  refine ⟨fun i => H (k + i), ?_, fun i hi => ?_⟩
  · rw [List.length_drop]
    exact row_eqf (row_drop h1 hk) fun i hi j hj => by simp only [segsCells, getD_drop]
  · rw [getD_drop]
    rw [List.length_drop] at hi
    exact h2 (k + i) (by omega)
theorem segs_nil {w : World} {lo b : Nat} {A : Option Addr} {c : Nat} : SegsAt w lo b (.slice A 0 c) [] := ⟨fun _ => default, ⟨by simp, A, c, rfl, .inl rfl⟩, fun i hi => absurd hi (by simp)⟩
theorem segs_take {w : World} {lo b c k : Nat} {A : Option Addr} {ss : List Sg} (h : SegsAt w lo b (.slice A ss.length c) ss) (hk : k ≤ ss.length) : SegsAt w lo b (.slice A k c) (ss.take k) := by
  obtain ⟨H, h1, h2⟩ := h
  have hl : (ss.take k).length = k := by rw [List.length_take]; omega
  refine ⟨H, ?_, fun i hi => ?_⟩
  · rw [hl]
    exact row_eqf (row_take h1 hk) fun i hi j hj => by simp only [segsCells, getD_take ss k i hi]
  · rw [hl] at hi
    rw [getD_take ss k i hi]
    exact h2 i (by omega)
theorem ok_parts {l : Lg} (h : logOk l = true) : ∃ f, LgP.segs 0 0 l.segs = some f ∧ f ≤ l.next ∧ l.segs.length ≤ 60 ∧ 0 ≤ l.start ∧ l.start ≤ l.next ∧ l.next ≤ 1000000000 := by
  unfold LgP.logOk LgP.bounds LgP.counts LgP.stands at h
  simp only [Bool.and_eq_true, decide_eq_true_eq, inR] at h
  obtain ⟨⟨⟨a1, a2⟩, ⟨a3, a4⟩, a5⟩, ⟨a6, a7⟩, a8⟩ := h
  cases hs : LgP.segs 0 0 l.segs with
  | none => rw [hs] at a8; cases a8
  | some f =>
    rw [hs] at a8
    exact ⟨f, rfl, by simpa using a8, a6, a3, a4, a2⟩
theorem addOff (g o k : Nat) : (⟨g, o, none⟩ : Addr).add k = ⟨g, o + k, none⟩ := by unfold Addr.add; split <;> simp_all
theorem okAllB : ∀ (l : List Bat) (f e f' e' : Int), LgP.bats f e l = some (f', e') → ∀ i, i < l.length → BOk.batOk (l.getD i default) = true
  | [], _, _, _, _, _, i, hi => by simp at hi
  | b :: t, f, e, f', e', h, i, hi => by
    unfold LgP.bats at h
    split at h
    · rename_i hc
      match i with
      | 0 => exact hc.1
      | i + 1 =>
        rw [List.getD_cons_succ]
        exact okAllB t _ _ _ _ h i (by simpa using hi)
    · cases h
theorem okAllS' : ∀ (ss : List Sg) (f e f' : Int), LgP.segs f e ss = some f' → ∀ i, i < ss.length → ∀ k, k < (ss.getD i default).bats.length → BOk.batOk ((ss.getD i default).bats.getD k default) = true
  | [], _, _, _, _, i, hi, _, _ => by simp at hi
  | s :: t, f, e, f', h, i, hi, k, hk => by
    unfold LgP.segs at h
    split at h
    · cases hb : LgP.bats s.base e s.bats with
      | none => rw [hb] at h; cases h
      | some p =>
        rw [hb] at h
        match i with
        | 0 => exact okAllB _ _ _ p.1 p.2 hb k (by simpa using hk)
        | i + 1 =>
          rw [List.getD_cons_succ] at hk ⊢
          exact okAllS' t _ _ _ h i (by simpa using hi) k hk
    · cases h
theorem okAllS {ss : List Sg} {f : Int} (h : LgP.segs 0 0 ss = some f) : ∀ i, i < ss.length → ∀ k, k < (ss.getD i default).bats.length → BOk.batOk ((ss.getD i default).bats.getD k default) = true := okAllS' ss 0 0 f h
end Go.Proofs.Yticihnoekffelaa.Ft
namespace Go.Proofs.Yticihnoekffelaa.Ft
set_option maxRecDepth 8000
open Go.RowKit
open Recs
set_option linter.unusedVariables false
section
variable {P : Program} (w : World)
theorem run_append_all (base : Nat) (t ty e : TypeId) (i : TypeInfo) (z : Value) (size bytes : Nat) (ht : P.underlying t = some (.slice e)) (hi : P.info? e = some i) (hz : i.zero = some z)
    (hsize : i.size = size) (hby : i.bytes = bytes) (hzs : z.cells.size = size) (hsz : 0 < size)
    (v : Value) (n : Nat) (xs : List Value) (hown : w.ownsRow base e size v n xs)
    (A : Option Addr) (m c : Nat) (news : List Value) (hl : news.length = m * size) (hnews : m ≠ 0 → ∃ ad, A = some ad ∧ ∀ j u, news[j]? = some u → w.cell? (ad.add j) = some u) (h1 : ∀ u ∈ news, u.oneCell' = true)
    (h63 : n + m ≤ maxLen) (hbytes : (n + m) * bytes ≤ 140737488355328) (hbase : base ≤ w.heap.size) :
    ∃ v' w', (Builtin.append_ #[t, t] ty #[v, .slice A m c]).run P w = .ok v' w' ∧ w'.ownsRow base e size v' (n + m) (xs ++ news) ∧ w.grownBy w' v.ownBlock ∧ (v'.ownBlock = v.ownBlock ∨ v'.ownBlock = some w.heap.size) := by
  by_cases hm : m = 0
  · subst hm
    have hn : news = [] := List.eq_nil_of_length_eq_zero (by simpa using hl)
    subst hn
    cases A with
    | some ad =>
      obtain ⟨v', w', a1, a2, a3, a4, a5⟩ := run_append_own_at (P := P) w base t ty e i z size bytes ht hi hz hsize hby hzs hsz v n xs hown ad 0 c [] (by simp) (by simp) (by simp) h63 hbytes hbase
      exact ⟨v', w', a1, a2, a3, a5⟩
    | none =>
      refine ⟨v, w, ?_, by simpa using hown, ⟨rfl, rfl, rfl, Nat.le_refl _, fun _ _ _ => rfl⟩, .inl rfl⟩
      subst hsize
      rcases hown.2 with ⟨rfl, rfl⟩ | ⟨g, cap, cur, rfl, hbg, hg, hnc, hcm, hcs, htake⟩
      · simp [Builtin.append_, run_underlying ht, sizeOf, typeInfo, hi, Builtin.lenOf, Builtin.firstCells]
      · simp [Builtin.append_, run_underlying ht, sizeOf, typeInfo, hi, Builtin.lenOf, Builtin.firstCells, loadCells, hnc, storeCells]
  · obtain ⟨ad, rfl, hc⟩ := hnews hm
    obtain ⟨v', w', a1, a2, a3, a4, a5⟩ := run_append_own_at (P := P) w base t ty e i z size bytes ht hi hz hsize hby hzs hsz v n xs hown ad m c news hl hc h1 h63 hbytes hbase
    exact ⟨v', w', a1, a2, a3, a5⟩
theorem wp_append_all {o : Oper} {a : Act} {K : Act → World → Prop} {Q : Exit → Act → World → Prop} (s x : Operand) (t : TypeId)
    (ho : o.op = .call { callee := .builtin .append, args := #[s, x], argTypes := #[t, t] })
    (base : Nat) (e : TypeId) (i : TypeInfo) (z : Value) (size bytes : Nat) (ht : P.underlying t = some (.slice e)) (hi : P.info? e = some i) (hz : i.zero = some z)
    (hsize : i.size = size) (hby : i.bytes = bytes) (hzs : z.cells.size = size) (hsz : 0 < size)
    (v : Value) (n : Nat) (xs : List Value) (hs : a.eval s = v) (hown : w.ownsRow base e size v n xs)
    (A : Option Addr) (m c : Nat) (news : List Value) (hx : a.eval x = .slice A m c) (hl : news.length = m * size) (hnews : m ≠ 0 → ∃ ad, A = some ad ∧ ∀ j u, news[j]? = some u → w.cell? (ad.add j) = some u) (h1 : ∀ u ∈ news, u.oneCell' = true)
    (h63 : n + m ≤ maxLen) (hbytes : (n + m) * bytes ≤ 140737488355328) (hbase : base ≤ w.heap.size)
    (h : ∀ v' w', w'.ownsRow base e size v' (n + m) (xs ++ news) → w.grownBy w' v.ownBlock → (v'.ownBlock = v.ownBlock ∨ v'.ownBlock = some w.heap.size) → K (a.put o.dst v') w') : o.wp P a w K Q := by
  obtain ⟨v', w', hr, h2, h3, h4⟩ := run_append_all (P := P) w base t o.type e i z size bytes ht hi hz hsize hby hzs hsz v n xs hown A m c news hl hnews h1 h63 hbytes hbase
  unfold Oper.wp execOp
  simp only [ho, resolve, invoke, builtin, Sem.run_bind, Sem.run_pure, Result.andThen_ok, List.map_toArray, List.map_cons, List.map_nil, hs, hx, hr]
  exact h v' w' h2 h3 h4
theorem wpList_append_all {ops : Array Oper} {rest : List Oper} {o : Oper} {a : Act} {Q : Exit → Act → World → Prop} (hgd : o.guard = none) (s x : Operand) (t : TypeId)
    (ho : o.op = .call { callee := .builtin .append, args := #[s, x], argTypes := #[t, t] })
    (base : Nat) (e : TypeId) (i : TypeInfo) (z : Value) (size bytes : Nat) (ht : P.underlying t = some (.slice e)) (hi : P.info? e = some i) (hz : i.zero = some z)
    (hsize : i.size = size) (hby : i.bytes = bytes) (hzs : z.cells.size = size) (hsz : 0 < size)
    (v : Value) (n : Nat) (xs : List Value) (hs : a.eval s = v) (hown : w.ownsRow base e size v n xs)
    (A : Option Addr) (m c : Nat) (news : List Value) (hx : a.eval x = .slice A m c) (hl : news.length = m * size) (hnews : m ≠ 0 → ∃ ad, A = some ad ∧ ∀ j u, news[j]? = some u → w.cell? (ad.add j) = some u) (h1 : ∀ u ∈ news, u.oneCell' = true)
    (h63 : n + m ≤ maxLen) (hbytes : (n + m) * bytes ≤ 140737488355328) (hbase : base ≤ w.heap.size)
    (h : ∀ v' w', w'.ownsRow base e size v' (n + m) (xs ++ news) → w.grownBy w' v.ownBlock → (v'.ownBlock = v.ownBlock ∨ v'.ownBlock = some w.heap.size) → wpList P ops Q rest (a.put o.dst v') w') : wpList P ops Q (o :: rest) a w :=
  wpList_plain hgd fun _ hK => wp_append_all w s x t ho base e i z size bytes ht hi hz hsize hby hzs hsz v n xs hs hown A m c news hx hl hnews h1 h63 hbytes hbase fun v' w' h2 h3 h4 => hK _ _ (h v' w' h2 h3 h4)
theorem step_append_all {ops : Array Oper} {o : Oper} {a : Act} {K : Act → World → Prop} {Q : Exit → Act → World → Prop} {E : Prop} (hgd : o.guard = none) (s x : Operand) (t : TypeId)
    (ho : o.op = .call { callee := .builtin .append, args := #[s, x], argTypes := #[t, t] })
    (base : Nat) (e : TypeId) (i : TypeInfo) (z : Value) (size bytes : Nat) (ht : P.underlying t = some (.slice e)) (hi : P.info? e = some i) (hz : i.zero = some z)
    (hsize : i.size = size) (hby : i.bytes = bytes) (hzs : z.cells.size = size) (hsz : 0 < size)
    (v : Value) (n : Nat) (xs : List Value) (hs : a.eval s = v) (hown : w.ownsRow base e size v n xs)
    (A : Option Addr) (m c : Nat) (news : List Value) (hx : a.eval x = .slice A m c) (hl : news.length = m * size) (hnews : m ≠ 0 → ∃ ad, A = some ad ∧ ∀ j u, news[j]? = some u → w.cell? (ad.add j) = some u) (h1 : ∀ u ∈ news, u.oneCell' = true)
    (h63 : n + m ≤ maxLen) (hbytes : (n + m) * bytes ≤ 140737488355328) (hbase : base ≤ w.heap.size)
    (h : ∀ v' w', w'.ownsRow base e size v' (n + m) (xs ++ news) → w.grownBy w' v.ownBlock → (v'.ownBlock = v.ownBlock ∨ v'.ownBlock = some w.heap.size) → K (a.put o.dst v') w') :
    if Region.wanted o (yielded ops a.tmps) = true then Oper.wp P o a w K Q else E := by
  have hw : Region.wanted o (yielded ops a.tmps) = true := by simp [Region.wanted, hgd]
  rw [if_pos hw]
  exact wp_append_all w s x t ho base e i z size bytes ht hi hz hsize hby hzs hsz v n xs hs hown A m c news hx hl hnews h1 h63 hbytes hbase h
end
/-- The cells of a row, one behind the other. -/
def flat (s n : Nat) (f : Nat → Nat → Value) : List Value := (List.range (n * s)).map fun q => f (q / s) (q % s)
theorem flat_len (s n : Nat) (f : Nat → Nat → Value) : (flat s n f).length = n * s := by simp [flat]
theorem flat_news {w : World} {lo b s n : Nat} {A : Option Addr} {c : Nat} {f : Nat → Nat → Value} (hs : 0 < s) (h : Row w lo b s (.slice A n c) n f) : n ≠ 0 → ∃ ad, A = some ad ∧ ∀ j u, (flat s n f)[j]? = some u → w.cell? (ad.add j) = some u := fun hn => by
  obtain ⟨_, A', c', h1, h2⟩ := h
  simp only [Value.slice.injEq] at h1
  obtain ⟨rfl, _, rfl⟩ := h1
  obtain ⟨g, o, rfl, _, _, h6, _⟩ := h2.resolve_left hn
  refine ⟨_, rfl, fun j u hj => ?_⟩
  have hlt := (List.getElem?_eq_some_iff.1 hj).1
  rw [flat_len] at hlt
  have hi : j / s < n := Nat.div_lt_of_lt_mul (by rw [Nat.mul_comm]; exact hlt)
  have := h6 (j / s) hi (j % s) (Nat.mod_lt _ hs)
  have hadd : (⟨g, o, none⟩ : Addr).add j = ⟨g, o + j, none⟩ := by unfold Addr.add; split <;> simp_all
  rw [hadd, show o + j = o + j / s * s + j % s by have := Nat.div_add_mod j s; rw [Nat.mul_comm] at this; omega, this]
  simp only [flat, List.getElem?_map, List.getElem?_range hlt, Option.map_some] at hj
  exact hj
theorem flat_cell (s n : Nat) (f : Nat → Nat → Value) (i j : Nat) (hi : i < n) (hj : j < s) : (flat s n f).getD (i * s + j) default = f i j := by
  have hlt : i * s + j < n * s := by
    have : (i + 1) * s ≤ n * s := Nat.mul_le_mul_right s hi
    rw [Nat.succ_mul] at this
    omega
  unfold flat
  rw [List.getD_eq_getElem?_getD, List.getElem?_map, List.getElem?_range hlt]
  simp only [Option.map_some, Option.getD_some]
  rw [show i * s + j = j + s * i by rw [Nat.mul_comm]; omega, Nat.add_mul_div_left _ _ (by omega), Nat.div_eq_of_lt hj, Nat.zero_add, Nat.add_mul_mod_self_left, Nat.mod_eq_of_lt hj]
end Go.Proofs.Yticihnoekffelaa.Ft
