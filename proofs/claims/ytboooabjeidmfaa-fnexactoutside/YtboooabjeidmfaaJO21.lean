/- A whole slice, or nothing, appended onto nil or a row of the call's own; The program's slices.Clone over texts and Query.joined. -/
import Derived.Maps.AppendAt
import Derived.Deep.AppendLies
import Derived.WalkLawsBesides
import Derived.Deep.Cut
import Derived.Test.YtboooabjeidmfaaJO01
import Derived.Test.YtboooabjeidmfaaJO14
import Derived.Test.YtboooabjeidmfaaJO20
import Derived.Test.YtboooabjeidmfaaJO17
import Derived.Test.YtboooabjeidmfaaJO13
namespace Go.Proofs.Ytboooabjeidmfaa.AppW
set_option maxRecDepth 8000
open Go.RowKit
set_option linter.unusedVariables false
section
variable {P : Program} (w : World)
theorem run_append_all (base : Nat) (t ty e : TypeId) (i : TypeInfo) (z : Value) (size bytes : Nat) (ht : P.underlying t = some (.slice e)) (hi : P.info? e = some i) (hz : i.zero = some z)
    (hsize : i.size = size) (hby : i.bytes = bytes) (hzs : z.cells.size = size) (hsz : 0 < size)
    (v : Value) (n : Nat) (xs : List Value) (hown : w.ownsRow base e size v n xs)
    (A : Option Addr) (m c : Nat) (news : List Value) (hl : news.length = m * size) (hnews : m ≠ 0 → ∃ ad, A = some ad ∧ ∀ j u, news[j]? = some u → w.cell? (ad.add j) = some u) (h1 : ∀ u ∈ news, u.oneCell' = true)
    (h63 : n + m ≤ maxLen) (hbytes : (n + m) * bytes ≤ 140737488355328) (hbase : base ≤ w.heap.size) :
    ∃ v' w', (Builtin.append_ #[t, t] ty #[v, .slice A m c]).run P w = .ok v' w' ∧ w'.ownsRow base e size v' (n + m) (xs ++ news) ∧ w.grownBy w' v.ownBlock ∧ (v'.ownBlock = v.ownBlock ∨ v'.ownBlock = some w.heap.size) := by
  by_cases hm : m = 0
  · subst hm
    have hn : news = [] := List.eq_nil_of_length_eq_zero (by simpa using hl)
    subst hn
    cases A with
    | some ad =>
      obtain ⟨v', w', a1, a2, a3, a4, a5⟩ := run_append_own_at (P := P) w base t ty e i z size bytes ht hi hz hsize hby hzs hsz v n xs hown ad 0 c [] (by simp) (by simp) (by simp) h63 hbytes hbase
      exact ⟨v', w', a1, a2, a3, a5⟩
    | none =>
      refine ⟨v, w, ?_, by simpa using hown, ⟨rfl, rfl, rfl, Nat.le_refl _, fun _ _ _ => rfl⟩, .inl rfl⟩
      subst hsize
      rcases hown.2 with ⟨rfl, rfl⟩ | ⟨g, cap, cur, rfl, hbg, hg, hnc, hcm, hcs, htake⟩
      · simp [Builtin.append_, run_underlying ht, sizeOf, typeInfo, hi, Builtin.lenOf, Builtin.firstCells]
      · simp [Builtin.append_, run_underlying ht, sizeOf, typeInfo, hi, Builtin.lenOf, Builtin.firstCells, loadCells, hnc, storeCells]
  · obtain ⟨ad, rfl, hc⟩ := hnews hm
    obtain ⟨v', w', a1, a2, a3, a4, a5⟩ := run_append_own_at (P := P) w base t ty e i z size bytes ht hi hz hsize hby hzs hsz v n xs hown ad m c news hl hc h1 h63 hbytes hbase
    exact ⟨v', w', a1, a2, a3, a5⟩
theorem wp_append_all {o : Oper} {a : Act} {K : Act → World → Prop} {Q : Exit → Act → World → Prop} (s x : Operand) (t : TypeId)
    (ho : o.op = .call { callee := .builtin .append, args := #[s, x], argTypes := #[t, t] })
    (base : Nat) (e : TypeId) (i : TypeInfo) (z : Value) (size bytes : Nat) (ht : P.underlying t = some (.slice e)) (hi : P.info? e = some i) (hz : i.zero = some z)
    (hsize : i.size = size) (hby : i.bytes = bytes) (hzs : z.cells.size = size) (hsz : 0 < size)
    (v : Value) (n : Nat) (xs : List Value) (hs : a.eval s = v) (hown : w.ownsRow base e size v n xs)
    (A : Option Addr) (m c : Nat) (news : List Value) (hx : a.eval x = .slice A m c) (hl : news.length = m * size) (hnews : m ≠ 0 → ∃ ad, A = some ad ∧ ∀ j u, news[j]? = some u → w.cell? (ad.add j) = some u) (h1 : ∀ u ∈ news, u.oneCell' = true)
    (h63 : n + m ≤ maxLen) (hbytes : (n + m) * bytes ≤ 140737488355328) (hbase : base ≤ w.heap.size)
    (h : ∀ v' w', w'.ownsRow base e size v' (n + m) (xs ++ news) → w.grownBy w' v.ownBlock → (v'.ownBlock = v.ownBlock ∨ v'.ownBlock = some w.heap.size) → K (a.put o.dst v') w') : o.wp P a w K Q := by
  obtain ⟨v', w', hr, h2, h3, h4⟩ := run_append_all (P := P) w base t o.type e i z size bytes ht hi hz hsize hby hzs hsz v n xs hown A m c news hl hnews h1 h63 hbytes hbase
  unfold Oper.wp execOp
  simp only [ho, resolve, invoke, builtin, Sem.run_bind, Sem.run_pure, Result.andThen_ok, List.map_toArray, List.map_cons, List.map_nil, hs, hx, hr]
  exact h v' w' h2 h3 h4
theorem wpList_append_all {ops : Array Oper} {rest : List Oper} {o : Oper} {a : Act} {Q : Exit → Act → World → Prop} (hgd : o.guard = none) (s x : Operand) (t : TypeId)
    (ho : o.op = .call { callee := .builtin .append, args := #[s, x], argTypes := #[t, t] })
    (base : Nat) (e : TypeId) (i : TypeInfo) (z : Value) (size bytes : Nat) (ht : P.underlying t = some (.slice e)) (hi : P.info? e = some i) (hz : i.zero = some z)
    (hsize : i.size = size) (hby : i.bytes = bytes) (hzs : z.cells.size = size) (hsz : 0 < size)
    (v : Value) (n : Nat) (xs : List Value) (hs : a.eval s = v) (hown : w.ownsRow base e size v n xs)
    (A : Option Addr) (m c : Nat) (news : List Value) (hx : a.eval x = .slice A m c) (hl : news.length = m * size) (hnews : m ≠ 0 → ∃ ad, A = some ad ∧ ∀ j u, news[j]? = some u → w.cell? (ad.add j) = some u) (h1 : ∀ u ∈ news, u.oneCell' = true)
    (h63 : n + m ≤ maxLen) (hbytes : (n + m) * bytes ≤ 140737488355328) (hbase : base ≤ w.heap.size)
    (h : ∀ v' w', w'.ownsRow base e size v' (n + m) (xs ++ news) → w.grownBy w' v.ownBlock → (v'.ownBlock = v.ownBlock ∨ v'.ownBlock = some w.heap.size) → wpList P ops Q rest (a.put o.dst v') w') : wpList P ops Q (o :: rest) a w :=
  wpList_plain hgd fun _ hK => wp_append_all w s x t ho base e i z size bytes ht hi hz hsize hby hzs hsz v n xs hs hown A m c news hx hl hnews h1 h63 hbytes hbase fun v' w' h2 h3 h4 => hK _ _ (h v' w' h2 h3 h4)
theorem step_append_all {ops : Array Oper} {o : Oper} {a : Act} {K : Act → World → Prop} {Q : Exit → Act → World → Prop} {E : Prop} (hgd : o.guard = none) (s x : Operand) (t : TypeId)
    (ho : o.op = .call { callee := .builtin .append, args := #[s, x], argTypes := #[t, t] })
    (base : Nat) (e : TypeId) (i : TypeInfo) (z : Value) (size bytes : Nat) (ht : P.underlying t = some (.slice e)) (hi : P.info? e = some i) (hz : i.zero = some z)
    (hsize : i.size = size) (hby : i.bytes = bytes) (hzs : z.cells.size = size) (hsz : 0 < size)
    (v : Value) (n : Nat) (xs : List Value) (hs : a.eval s = v) (hown : w.ownsRow base e size v n xs)
    (A : Option Addr) (m c : Nat) (news : List Value) (hx : a.eval x = .slice A m c) (hl : news.length = m * size) (hnews : m ≠ 0 → ∃ ad, A = some ad ∧ ∀ j u, news[j]? = some u → w.cell? (ad.add j) = some u) (h1 : ∀ u ∈ news, u.oneCell' = true)
    (h63 : n + m ≤ maxLen) (hbytes : (n + m) * bytes ≤ 140737488355328) (hbase : base ≤ w.heap.size)
    (h : ∀ v' w', w'.ownsRow base e size v' (n + m) (xs ++ news) → w.grownBy w' v.ownBlock → (v'.ownBlock = v.ownBlock ∨ v'.ownBlock = some w.heap.size) → K (a.put o.dst v') w') :
    if Region.wanted o (yielded ops a.tmps) = true then Oper.wp P o a w K Q else E := by
  have hw : Region.wanted o (yielded ops a.tmps) = true := by simp [Region.wanted, hgd]
  rw [if_pos hw]
  exact wp_append_all w s x t ho base e i z size bytes ht hi hz hsize hby hzs hsz v n xs hs hown A m c news hx hl hnews h1 h63 hbytes hbase h
end
end Go.Proofs.Ytboooabjeidmfaa.AppW
namespace Go.Proofs.Ytboooabjeidmfaa.YtI
set_option maxRecDepth 8000
open Go.RowKit
open Ls Lp QyP QsP QtP QuP YcP YsP YtP QsI XqP
open Recs (hsz below1 below2 below3 chain)
set_option linter.unusedVariables false
theorem news_of {w w' : World} {S : Nat → Prop} {A : Option Addr} {c : Nat} {us : List ByteArray} (h : LAt 1 EStr w S (.slice A us.length c) us) (hS : ∀ g, S g → w'.heap[g]? = w.heap[g]?) : us.length ≠ 0 → ∃ ad, A = some ad ∧ ∀ j u, (us.map Value.string)[j]? = some u → w'.cell? (ad.add j) = some u := fun h0 => by
  obtain ⟨hn, A', c', e, h⟩ := h
  cases e
  obtain ⟨g, o, F, rfl, hg, hc, hcell, hel⟩ := h.resolve_left h0
  refine ⟨_, rfl, fun j u hu => ?_⟩
  have hj : j < us.length := by
    have := (List.getElem?_eq_some_iff.1 hu).1
    simpa using this
  have e : F j 0 = .string (us.getD j default) := hel j hj
  have cc := hcell j hj 0 (by omega)
  rw [e] at cc
  have hu' : u = .string (us.getD j default) := by simpa [hj] using hu.symm
  have ead : Addr.add ⟨g, o, none⟩ j = ⟨g, o + j, none⟩ := by
    by_cases h0 : j = 0
    · subst h0; rfl
    · simp [Addr.add, h0]
  rw [hu', ead, World.cell?_of_block (w := w) (a := ⟨g, o + j, none⟩) (hS g hg)]
  simpa using cc
theorem row_all {w : World} {B : Nat} {v : Value} {us : List ByteArray} (h : w.ownsRow B 9 1 v (0 + us.length) ([] ++ us.map Value.string)) : Row w B v us := by
  rw [Nat.zero_add, List.nil_append] at h
  exact h
theorem row_more {w : World} {B : Nat} {v : Value} {us vs : List ByteArray} (h : w.ownsRow B 9 1 v (us.length + vs.length) (us.map Value.string ++ vs.map Value.string)) : Row w B v (us ++ vs) := by
  unfold Row
  rw [List.length_append, List.map_append]
  exact h
theorem empty_row (w : World) : Row (w.alloc (.cells #[] 9 (0, 0))) w.heap.size (.slice (some ⟨w.heap.size, 0, none⟩) 0 0) [] :=
  ⟨rfl, .inr ⟨w.heap.size, 0, #[], rfl, Nat.le_refl _, heap_alloc_new _ _, by simp, by unfold maxLen; omega, by simp, by simp⟩⟩
set_option maxHeartbeats 1600000 in
theorem clone_any (A : Option Addr) (c : Nat) (us : List ByteArray) (w : World) (S : Nat → Prop) (h : LAt 1 EStr w S (.slice A us.length c) us) (hS : ∀ g, S g → g < w.heap.size) (hl : us.length ≤ 1048576) :
    Calls Try.prog 70 #[.slice A us.length c] w fun e w' => ∃ v, e = .returned v ∧ Row w' w.heap.size v us ∧ Below w.heap.size w w' := by
  have H := Seg.hid h
  clear h
  cases A with
  | none =>
    have hz : us.length = 0 := by
      obtain ⟨_, A', c', h1, h2⟩ := H.out
      simp only [Value.slice.injEq, true_and] at h1
      obtain ⟨rfl, rfl⟩ := h1
      rcases h2 with h2 | ⟨g, o, F, h3, _⟩
      · exact h2
      · cases h3
    obtain rfl := List.length_eq_zero_iff.1 hz
    have hq := Lib.run_eql_slice_nil (P := Try.prog) w 30 9 none 0 c 0 0 Try.underlying30
    go_enter Try.func70, Try.ntmps70
    go_wp2
    go_ret
    exact ⟨_, rfl, World.ownsRow_nil w _ _ _, Below.refl _ _⟩
  | some ad =>
    obtain ⟨i0, hi, hz0, hz1, hz2⟩ := info_parts infoStr
    have OW : Hid ((w.alloc (.cells #[] 9 (0, 0))).ownsRow w.heap.size 9 1 (.slice (some ⟨w.heap.size, 0, none⟩) 0 0) 0 []) := empty_row w
    have NW : Hid (us.length ≠ 0 → ∃ ad', some ad = some ad' ∧ ∀ j u, (us.map Value.string)[j]? = some u → (w.alloc (.cells #[] 9 (0, 0))).cell? (ad'.add j) = some u) := news_of H.out (fun g hg => (below1 w _).block g (hS g hg))
    have hq := Lib.run_eql_slice_nil (P := Try.prog) w 30 9 (some ad) us.length c 0 0 Try.underlying30
    go_enter Try.func70, Try.ntmps70
    go_wp2_with (at_builtin; refine AppW.wpList_append_all _ rfl _ _ 30 rfl w.heap.size 9 i0 _ 1 16 Try.underlying30 hi hz0 hz1 hz2 rfl (by decide) (.slice (some ⟨w.heap.size, 0, none⟩) 0 0) 0 [] rfl OW.out (some ad) us.length c (us.map Value.string) rfl (by simp) NW.out (by simp [Value.oneCell']) (by unfold maxLen; omega) (by omega) (by rw [hsz]; omega) ?_; intro v' w2 hown hgr hvb; have OA : Hid (Row w2 w.heap.size v' us) := row_all hown; have B2 : Hid (Below w.heap.size w w2) := (below1 w _).grown hgr (by rw [hsz]; omega) (fun k hk => by simp only [Value.ownBlock, Option.some.injEq] at hk; omega); clear hown hgr hvb)
    go_ret
    exact ⟨_, rfl, OA.out, B2.out⟩
structure Js (w wr : World) (b0 : Nat) (on : ByteArray) (a b : List ByteArray) (k : Nat) (v : Value) : Prop where
  le : k ≤ b.length
  row : Row wr b0 v (jnL on a (b.take k))
  bel : Below w.heap.size w wr
  blk : wr.cell? ⟨w.heap.size, 3, none⟩ = some (.string on)
  siz : b0 ≤ wr.heap.size
theorem row_weak {w : World} {B B' : Nat} {v : Value} {ns : List ByteArray} (h : Row w B v ns) (hb : B' ≤ B) : Row w B' v ns :=
  ⟨h.1, h.2.imp id (fun ⟨g, cap, cur, h1, h2, h3⟩ => ⟨g, cap, cur, h1, by omega, h3⟩)⟩
theorem cell_later {w w' : World} {g j : Nat} {v : Value} (h : w.cell? ⟨g, j, none⟩ = some v) (hg : g < w.heap.size) (hb : Below w.heap.size w w') : w'.cell? ⟨g, j, none⟩ = some v := by
  rw [World.cell?_of_block (w := w) (a := ⟨g, j, none⟩) (hb.block g hg)]
  exact h
theorem row_lt {w : World} {B : Nat} {v : Value} {ns : List ByteArray} (h : Row w B v ns) : ∀ y, v.ownBlock = some y → B ≤ y ∧ y < w.heap.size := fun y hy => World.ownsRow.lt h y hy
end Go.Proofs.Ytboooabjeidmfaa.YtI
