/- Bytes that are drawn: some bytes, in memory that is new; A whole slice, or nothing, appended onto nil or a row of the call's own. -/
import Derived.Deep.AppendLies
import Derived.Laws.OwnMore
import Derived.Laws.BytesArg
import Derived.Lib.ConvBytes
import Derived.Maps.AppendAt
import Derived.Test.YtkohhcjpjloaaaaJW01
namespace Go.Proofs.Ytkohhcjpjloaaaa.DrawB
set_option maxRecDepth 8000
open Go.RowKit
open Draw (Cur Lft Bytes)
set_option linter.unusedVariables false
theorem infoB : (Try.prog.info? 5).map (fun i => (i.zero, i.size, i.bytes)) = some (some (.int .u8 0), 1, 1) := by kernel_rfl

/-- The cursor stays where writes and new blocks lie above the world w. -/
theorem Cur.above {w a d : World} {b : Nat} {A : Option Addr} {n c : Nat} {row : Option Nat} (h0 : Cur w b A n c) (ha : Cur a b A n c) (hg : a.grownBy d row) (hrow : ∀ k, row = some k → w.heap.size ≤ k) : Cur d b A n c := by
  have hb : d.heap[b]? = a.heap[b]? := hg.block b ha.lt (fun e => by have := hrow b e.symm; have := h0.lt; omega)
  have k := fun (j : Nat) => World.cell?_of_block (a := ⟨b, j, none⟩) hb
  have kf := fun (j : Nat) => World.frozen?_of_block (a := ⟨b, j, none⟩) hb
  obtain ⟨i, hi, hci⟩ := ha.i
  obtain ⟨x, hx⟩ := ha.h
  refine ⟨Nat.lt_of_lt_of_le ha.lt hg.size, ha.le, by rw [k]; exact ha.s, ⟨i, hi, by rw [k]; exact hci⟩, ⟨x, by rw [k]; exact hx⟩, by rw [kf]; exact ha.f1, by rw [kf]; exact ha.f2, ?_⟩
  rcases h0.by_ with h | ⟨g, o, h1, h2, h3, h4, h5⟩
  · exact .inl h
  · rcases ha.by_ with h | ⟨g', o', h1', h2', h3', h4', h5'⟩
    · exact .inl h
    · rw [h1] at h1'
      cases h1'
      refine .inr ⟨g, o, h1, h2, Nat.lt_of_lt_of_le h3' hg.size, h4, fun j hj => ?_⟩
      obtain ⟨x, hx, hc⟩ := h5' j hj
      exact ⟨x, hx, hg.cell hc (fun e => by have := hrow g e.symm; omega)⟩
theorem grown_above {w a d : World} {b : Nat} {row : Option Nat} (h : w.grownBy a (some b)) (hg : a.grownBy d row) (hrow : ∀ k, row = some k → w.heap.size ≤ k) : w.grownBy d (some b) :=
  ⟨hg.os.trans h.os, hg.tape.trans h.tape, hg.output.trans h.output, Nat.le_trans h.size hg.size, fun k hk hkb => (hg.block k (Nat.lt_of_lt_of_le hk h.size) (fun e => by have := hrow k e.symm; omega)).trans (h.block k hk hkb)⟩
/-- What a reader of the cursor that also makes memory leaves. -/
theorem Lft.above {w a d : World} {b : Nat} {A : Option Addr} {n c : Nat} {row : Option Nat} (h0 : Cur w b A n c) (h : Lft w a b A n c) (hg : a.grownBy d row) (hrow : ∀ k, row = some k → w.heap.size ≤ k) : Lft w d b A n c :=
  ⟨Cur.above h0 h.cur hg hrow, grown_above h.grown hg hrow⟩
/-- An owned row stays where the cursor's block alone is written. -/
theorem owns_lft {w a : World} {base e : Nat} {v : Value} {k : Nat} {xs : List Value} {b : Nat} (h : w.ownsRow base e 1 v k xs) (hb : b < base) (hg : w.grownBy a (some b)) : a.ownsRow base e 1 v k xs :=
  h.kept hg (by
    by_cases hv : v.ownBlock = none
    · exact .inl hv
    · obtain ⟨j, hj⟩ := Option.ne_none_iff_exists'.1 hv
      right
      intro e
      have := (h.lt j hj).1
      rw [hj] at e
      simp at e
      omega)

/-- The bytes that are gathered so far. -/
structure Gath (w wr : World) (b : Nat) (A : Option Addr) (n c : Nat) (v : Value) (k : Nat) (xs : List Int) : Prop where
  len : xs.length = k
  byt : ∀ x ∈ xs, 0 ≤ x ∧ x < 256
  own : wr.ownsRow w.heap.size 5 1 v k (Seg.B xs)
  lft : Lft w wr b A n c
theorem Gath.lft2 {w wr w2 : World} {b : Nat} {A : Option Addr} {n c : Nat} {v : Value} {k : Nat} {xs : List Int} (h0 : Cur w b A n c) (h : Gath w wr b A n c v k xs) (L : Lft wr w2 b A n c) : Gath w w2 b A n c v k xs :=
  ⟨h.len, h.byt, owns_lft h.own h0.lt L.grown, h.lft.trans L⟩
theorem Gath.push {w wr w1 : World} {b : Nat} {A : Option Addr} {n c : Nat} {v v' : Value} {k : Nat} {xs : List Int} {o : Obj} {y : Int} (h0 : Cur w b A n c) (h : Gath w wr b A n c v k xs) (hy : 0 ≤ y ∧ y < 256)
    (ho : w1.ownsRow w.heap.size 5 1 v' (k + 1) (Seg.B xs ++ [.int .u8 y])) (hg : (wr.alloc o).grownBy w1 v.ownBlock) : Gath w w1 b A n c v' (k + 1) (xs ++ [y]) :=
  ⟨by simp [h.len], fun x hx => by
      rcases List.mem_append.1 hx with hx | hx
      · exact h.byt x hx
      · simp at hx; subst hx; exact hy, by simpa [Seg.B] using ho, Lft.above h0 (Lft.above h0 h.lft (World.grownBy_alloc wr o none) (fun k hk => by cases hk)) hg (fun k hk => (h.own.lt k hk).1)⟩

theorem u8_bd (u : UInt8) : 0 ≤ (u.toNat : Int) ∧ (u.toNat : Int) < 256 := by
  have := u.toNat_lt
  omega

end Go.Proofs.Ytkohhcjpjloaaaa.DrawB
namespace Go.Proofs.Ytkohhcjpjloaaaa.AppW
set_option maxRecDepth 8000
open Go.RowKit
set_option linter.unusedVariables false
section
variable {P : Program} (w : World)
theorem run_append_all (base : Nat) (t ty e : TypeId) (i : TypeInfo) (z : Value) (size bytes : Nat) (ht : P.underlying t = some (.slice e)) (hi : P.info? e = some i) (hz : i.zero = some z)
    (hsize : i.size = size) (hby : i.bytes = bytes) (hzs : z.cells.size = size) (hsz : 0 < size)
    (v : Value) (n : Nat) (xs : List Value) (hown : w.ownsRow base e size v n xs)
    (A : Option Addr) (m c : Nat) (news : List Value) (hl : news.length = m * size) (hnews : m ≠ 0 → ∃ ad, A = some ad ∧ ∀ j u, news[j]? = some u → w.cell? (ad.add j) = some u) (h1 : ∀ u ∈ news, u.oneCell' = true)
    (h63 : n + m ≤ maxLen) (hbytes : (n + m) * bytes ≤ 140737488355328) (hbase : base ≤ w.heap.size) :
    ∃ v' w', (Builtin.append_ #[t, t] ty #[v, .slice A m c]).run P w = .ok v' w' ∧ w'.ownsRow base e size v' (n + m) (xs ++ news) ∧ w.grownBy w' v.ownBlock ∧ (v'.ownBlock = v.ownBlock ∨ v'.ownBlock = some w.heap.size) := by
  by_cases hm : m = 0
  · subst hm
    have hn : news = [] := List.eq_nil_of_length_eq_zero (by simpa using hl)
    subst hn
    cases A with
    | some ad =>
      obtain ⟨v', w', a1, a2, a3, a4, a5⟩ := run_append_own_at (P := P) w base t ty e i z size bytes ht hi hz hsize hby hzs hsz v n xs hown ad 0 c [] (by simp) (by simp) (by simp) h63 hbytes hbase
      exact ⟨v', w', a1, a2, a3, a5⟩
    | none =>
      refine ⟨v, w, ?_, by simpa using hown, ⟨rfl, rfl, rfl, Nat.le_refl _, fun _ _ _ => rfl⟩, .inl rfl⟩
      subst hsize
      rcases hown.2 with ⟨rfl, rfl⟩ | ⟨g, cap, cur, rfl, hbg, hg, hnc, hcm, hcs, htake⟩
      · simp [Builtin.append_, run_underlying ht, sizeOf, typeInfo, hi, Builtin.lenOf, Builtin.firstCells]
      · simp [Builtin.append_, run_underlying ht, sizeOf, typeInfo, hi, Builtin.lenOf, Builtin.firstCells, loadCells, hnc, storeCells]
  · obtain ⟨ad, rfl, hc⟩ := hnews hm
    obtain ⟨v', w', a1, a2, a3, a4, a5⟩ := run_append_own_at (P := P) w base t ty e i z size bytes ht hi hz hsize hby hzs hsz v n xs hown ad m c news hl hc h1 h63 hbytes hbase
    exact ⟨v', w', a1, a2, a3, a5⟩
theorem wp_append_all {o : Oper} {a : Act} {K : Act → World → Prop} {Q : Exit → Act → World → Prop} (s x : Operand) (t : TypeId)
    (ho : o.op = .call { callee := .builtin .append, args := #[s, x], argTypes := #[t, t] })
    (base : Nat) (e : TypeId) (i : TypeInfo) (z : Value) (size bytes : Nat) (ht : P.underlying t = some (.slice e)) (hi : P.info? e = some i) (hz : i.zero = some z)
    (hsize : i.size = size) (hby : i.bytes = bytes) (hzs : z.cells.size = size) (hsz : 0 < size)
    (v : Value) (n : Nat) (xs : List Value) (hs : a.eval s = v) (hown : w.ownsRow base e size v n xs)
    (A : Option Addr) (m c : Nat) (news : List Value) (hx : a.eval x = .slice A m c) (hl : news.length = m * size) (hnews : m ≠ 0 → ∃ ad, A = some ad ∧ ∀ j u, news[j]? = some u → w.cell? (ad.add j) = some u) (h1 : ∀ u ∈ news, u.oneCell' = true)
    (h63 : n + m ≤ maxLen) (hbytes : (n + m) * bytes ≤ 140737488355328) (hbase : base ≤ w.heap.size)
    (h : ∀ v' w', w'.ownsRow base e size v' (n + m) (xs ++ news) → w.grownBy w' v.ownBlock → (v'.ownBlock = v.ownBlock ∨ v'.ownBlock = some w.heap.size) → K (a.put o.dst v') w') : o.wp P a w K Q := by
  obtain ⟨v', w', hr, h2, h3, h4⟩ := run_append_all (P := P) w base t o.type e i z size bytes ht hi hz hsize hby hzs hsz v n xs hown A m c news hl hnews h1 h63 hbytes hbase
  unfold Oper.wp execOp
  simp only [ho, resolve, invoke, builtin, Sem.run_bind, Sem.run_pure, Result.andThen_ok, List.map_toArray, List.map_cons, List.map_nil, hs, hx, hr]
  exact h v' w' h2 h3 h4
theorem wpList_append_all {ops : Array Oper} {rest : List Oper} {o : Oper} {a : Act} {Q : Exit → Act → World → Prop} (hgd : o.guard = none) (s x : Operand) (t : TypeId)
    (ho : o.op = .call { callee := .builtin .append, args := #[s, x], argTypes := #[t, t] })
    (base : Nat) (e : TypeId) (i : TypeInfo) (z : Value) (size bytes : Nat) (ht : P.underlying t = some (.slice e)) (hi : P.info? e = some i) (hz : i.zero = some z)
    (hsize : i.size = size) (hby : i.bytes = bytes) (hzs : z.cells.size = size) (hsz : 0 < size)
    (v : Value) (n : Nat) (xs : List Value) (hs : a.eval s = v) (hown : w.ownsRow base e size v n xs)
    (A : Option Addr) (m c : Nat) (news : List Value) (hx : a.eval x = .slice A m c) (hl : news.length = m * size) (hnews : m ≠ 0 → ∃ ad, A = some ad ∧ ∀ j u, news[j]? = some u → w.cell? (ad.add j) = some u) (h1 : ∀ u ∈ news, u.oneCell' = true)
    (h63 : n + m ≤ maxLen) (hbytes : (n + m) * bytes ≤ 140737488355328) (hbase : base ≤ w.heap.size)
    (h : ∀ v' w', w'.ownsRow base e size v' (n + m) (xs ++ news) → w.grownBy w' v.ownBlock → (v'.ownBlock = v.ownBlock ∨ v'.ownBlock = some w.heap.size) → wpList P ops Q rest (a.put o.dst v') w') : wpList P ops Q (o :: rest) a w :=
  wpList_plain hgd fun _ hK => wp_append_all w s x t ho base e i z size bytes ht hi hz hsize hby hzs hsz v n xs hs hown A m c news hx hl hnews h1 h63 hbytes hbase fun v' w' h2 h3 h4 => hK _ _ (h v' w' h2 h3 h4)
theorem step_append_all {ops : Array Oper} {o : Oper} {a : Act} {K : Act → World → Prop} {Q : Exit → Act → World → Prop} {E : Prop} (hgd : o.guard = none) (s x : Operand) (t : TypeId)
    (ho : o.op = .call { callee := .builtin .append, args := #[s, x], argTypes := #[t, t] })
    (base : Nat) (e : TypeId) (i : TypeInfo) (z : Value) (size bytes : Nat) (ht : P.underlying t = some (.slice e)) (hi : P.info? e = some i) (hz : i.zero = some z)
    (hsize : i.size = size) (hby : i.bytes = bytes) (hzs : z.cells.size = size) (hsz : 0 < size)
    (v : Value) (n : Nat) (xs : List Value) (hs : a.eval s = v) (hown : w.ownsRow base e size v n xs)
    (A : Option Addr) (m c : Nat) (news : List Value) (hx : a.eval x = .slice A m c) (hl : news.length = m * size) (hnews : m ≠ 0 → ∃ ad, A = some ad ∧ ∀ j u, news[j]? = some u → w.cell? (ad.add j) = some u) (h1 : ∀ u ∈ news, u.oneCell' = true)
    (h63 : n + m ≤ maxLen) (hbytes : (n + m) * bytes ≤ 140737488355328) (hbase : base ≤ w.heap.size)
    (h : ∀ v' w', w'.ownsRow base e size v' (n + m) (xs ++ news) → w.grownBy w' v.ownBlock → (v'.ownBlock = v.ownBlock ∨ v'.ownBlock = some w.heap.size) → K (a.put o.dst v') w') :
    if Region.wanted o (yielded ops a.tmps) = true then Oper.wp P o a w K Q else E := by
  have hw : Region.wanted o (yielded ops a.tmps) = true := by simp [Region.wanted, hgd]
  rw [if_pos hw]
  exact wp_append_all w s x t ho base e i z size bytes ht hi hz hsize hby hzs hsz v n xs hs hown A m c news hx hl hnews h1 h63 hbytes hbase h
end
end Go.Proofs.Ytkohhcjpjloaaaa.AppW
