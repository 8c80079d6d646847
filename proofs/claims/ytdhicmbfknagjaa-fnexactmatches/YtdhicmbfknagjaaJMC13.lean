/- A Field's cells, and the program's ValueOf; A whole slice, or nothing, appended onto nil or a row of the call's own. -/
import Derived.Deep.RegionHeld3
import Derived.Deep.RegionLaw
import Derived.BigQuiet
import Derived.Maps.AppendAt
import Derived.Deep.AppendLies
import Derived.Test.YtdhicmbfknagjaaJMC12
import Derived.Test.YtdhicmbfknagjaaJMC08
import Derived.Test.YtdhicmbfknagjaaJMC01
namespace Go.Proofs.Ytdhicmbfknagjaa.VoI
set_option maxRecDepth 8000
open Go.RowKit
open Ls Lp VkP VkR
open Recs (hsz below1 below2 below3 chain chainD)
set_option linter.unusedVariables false
set_option maxHeartbeats 1600000 in
theorem impl_any (x y : Value) (f : Fld) (u : Vlu) (w : World) (S : Nat → Prop) (hx : FldAt w S x f) (hy : VluAt w S y u) (hS : ∀ g, S g → g < w.heap.size) (hf : szVlu u ≤ 1048576) : Calls Try.prog 96 #[x, y] w fun e w' => e = .returned (.bool (vof f.kind f.lst f.may u)) ∧ Below w.heap.size w w' := by
  obtain ⟨A, c, B, d, rfl, -, -⟩ := form hx
  have HY := Seg.hid hy
  obtain ⟨A2, c2, rfl, -⟩ := formV hy
  clear hx hy
  have R0 : Hid (vof f.kind f.lst f.may u = (kOk f.kind && vok u && (if u.kind = 0 then f.may else decide (u.kind = f.kind) && (u.lst == f.lst)))) := rfl
  go_enter Try.func96, Try.ntmps96
  cases hk : kOk f.kind with
  | false =>
    have R : Hid (vof f.kind f.lst f.may u = false) := by show _ = _; rw [R0.out]; simp [hk]
    have HK := Seg.hid hk
    clear hk
    go_wp2_with (go_at_call 98; refine (VkI.kind_no _ _ HK.out).mono ?_; rintro e w1 ⟨rfl, b1⟩; have B1 := Seg.hid (chain (below2 w _ _) b1); clear b1)
    go_ret
    exact ⟨by rw [R.out]; rfl, B1.out⟩
  | true =>
    have HK := Seg.hid hk
    have R1 : Hid (vof f.kind f.lst f.may u = (vok u && (if u.kind = 0 then f.may else decide (u.kind = f.kind) && (u.lst == f.lst)))) := by show _ = _; rw [R0.out]; simp [hk]
    clear hk
    have CV : Hid (∀ wx, Below w.heap.size w wx → Calls Try.prog 124 #[.agg (vrow u A2 c2)] wx fun e w' => e = .returned (.bool (vok u)) ∧ Below wx.heap.size wx w') := fun wx b => VkI.value_any _ u wx S (HY.out.below b hS) (fun g hg => Nat.lt_of_lt_of_le (hS g hg) b.size) hf
    go_wp2_with fail
    refine (VkI.kind_yes _ _ HK.out).mono ?_
    rintro e w1 ⟨rfl, b1⟩
    have B1 := Seg.hid (chain (below2 w _ _) b1)
    have T1 : Hid (w1.heap[w.heap.size]? = some (.cells (frow f A c B d) 86 (0, 0))) := (b1.block w.heap.size (by rw [hsz, hsz]; omega)).trans (at2z w _ _)
    have T2 : Hid (w1.heap[w.heap.size + 1]? = some (.cells (vrow u A2 c2) 84 (0, 0))) := (b1.block (w.heap.size + 1) (by rw [hsz, hsz]; omega)).trans (at2y w _ _)
    have s1 : w.heap.size + 1 < w1.heap.size := (Array.getElem?_eq_some_iff.1 T2.out).1
    clear b1
    have p0 : w1.cell? ⟨w.heap.size + 1, 0, none⟩ = some (.int .i64 u.kind) := cell_of_row w1 _ 0 _ _ (0, 0) T2.out
    have p1 : w1.cell? ⟨w.heap.size + 1, 1, none⟩ = some (.int .i64 u.num) := cell_of_row w1 _ 1 _ _ (0, 0) T2.out
    have p2 : w1.cell? ⟨w.heap.size + 1, 2, none⟩ = some (.string u.text) := cell_of_row w1 _ 2 _ _ (0, 0) T2.out
    have p3 : w1.cell? ⟨w.heap.size + 1, 3, none⟩ = some (.bool u.lst) := cell_of_row w1 _ 3 _ _ (0, 0) T2.out
    have p4 : w1.cell? ⟨w.heap.size + 1, 4, none⟩ = some (.slice A2 u.items.length c2) := cell_of_row w1 _ 4 _ _ (0, 0) T2.out
    go_wp2_with fail
    refine (CV.out _ B1.out).mono ?_
    rintro e w2 ⟨rfl, b2⟩
    have B2 := Seg.hid (chain B1.out b2)
    have q0 := (b2.cell (p := ⟨w.heap.size + 1, 0, none⟩) s1).trans p0
    have q3 := (b2.cell (p := ⟨w.heap.size + 1, 3, none⟩) s1).trans p3
    have r1 : w2.cell? ⟨w.heap.size, 1, none⟩ = some (.int .i64 f.kind) := cell_of_row w2 _ 1 _ _ (0, 0) ((b2.block w.heap.size (by omega)).trans T1.out)
    have r2 : w2.cell? ⟨w.heap.size, 2, none⟩ = some (.bool f.lst) := cell_of_row w2 _ 2 _ _ (0, 0) ((b2.block w.heap.size (by omega)).trans T1.out)
    have r3 : w2.cell? ⟨w.heap.size, 3, none⟩ = some (.bool f.may) := cell_of_row w2 _ 3 _ _ (0, 0) ((b2.block w.heap.size (by omega)).trans T1.out)
    clear b2 p0 p1 p2 p3 p4
    cases hv : vok u with
    | false =>
      have R : Hid (vof f.kind f.lst f.may u = false) := by show _ = _; rw [R1.out]; simp [hv]
      clear hv
      go_wp2
      go_ret
      exact ⟨by rw [R.out]; rfl, B2.out⟩
    | true =>
      have R2 : Hid (vof f.kind f.lst f.may u = (if u.kind = 0 then f.may else decide (u.kind = f.kind) && (u.lst == f.lst))) := by show _ = _; rw [R1.out]; simp [hv]
      clear hv
      by_cases h0 : u.kind = 0
      · have R : Hid (vof f.kind f.lst f.may u = f.may) := by show _ = _; rw [R2.out]; simp [h0]
        go_wp2
        go_ret
        exact ⟨by rw [R.out]; rfl, B2.out⟩
      · by_cases h1 : u.kind = f.kind
        · have h01 : ¬ f.kind = 0 := by omega
          obtain ⟨ul, hul⟩ : ∃ b, u.lst = b := ⟨_, rfl⟩
          obtain ⟨fl, hfl⟩ : ∃ b, f.lst = b := ⟨_, rfl⟩
          have R : Hid (vof f.kind f.lst f.may u = (ul == fl)) := by show _ = _; rw [R2.out]; simp [h1, h01, hul, hfl]
          cases ul <;> cases fl
          all_goals
            go_wp2
            go_ret
            exact ⟨by rw [R.out]; rfl, B2.out⟩
        · have R : Hid (vof f.kind f.lst f.may u = false) := by show _ = _; rw [R2.out]; simp [h0, h1]
          have h2 : (u.kind == f.kind) = false := by simpa using h1
          go_wp2
          go_ret
          exact ⟨by rw [R.out]; rfl, B2.out⟩
end Go.Proofs.Ytdhicmbfknagjaa.VoI
namespace Go.Proofs.Ytdhicmbfknagjaa.AppW
set_option maxRecDepth 8000
open Go.RowKit
set_option linter.unusedVariables false
section
variable {P : Program} (w : World)
theorem run_append_all (base : Nat) (t ty e : TypeId) (i : TypeInfo) (z : Value) (size bytes : Nat) (ht : P.underlying t = some (.slice e)) (hi : P.info? e = some i) (hz : i.zero = some z)
    (hsize : i.size = size) (hby : i.bytes = bytes) (hzs : z.cells.size = size) (hsz : 0 < size)
    (v : Value) (n : Nat) (xs : List Value) (hown : w.ownsRow base e size v n xs)
    (A : Option Addr) (m c : Nat) (news : List Value) (hl : news.length = m * size) (hnews : m ≠ 0 → ∃ ad, A = some ad ∧ ∀ j u, news[j]? = some u → w.cell? (ad.add j) = some u) (h1 : ∀ u ∈ news, u.oneCell' = true)
    (h63 : n + m ≤ maxLen) (hbytes : (n + m) * bytes ≤ 140737488355328) (hbase : base ≤ w.heap.size) :
    ∃ v' w', (Builtin.append_ #[t, t] ty #[v, .slice A m c]).run P w = .ok v' w' ∧ w'.ownsRow base e size v' (n + m) (xs ++ news) ∧ w.grownBy w' v.ownBlock ∧ (v'.ownBlock = v.ownBlock ∨ v'.ownBlock = some w.heap.size) := by
  by_cases hm : m = 0
  · subst hm
    have hn : news = [] := List.eq_nil_of_length_eq_zero (by simpa using hl)
    subst hn
    cases A with
    | some ad =>
      obtain ⟨v', w', a1, a2, a3, a4, a5⟩ := run_append_own_at (P := P) w base t ty e i z size bytes ht hi hz hsize hby hzs hsz v n xs hown ad 0 c [] (by simp) (by simp) (by simp) h63 hbytes hbase
      exact ⟨v', w', a1, a2, a3, a5⟩
    | none =>
      refine ⟨v, w, ?_, by simpa using hown, ⟨rfl, rfl, rfl, Nat.le_refl _, fun _ _ _ => rfl⟩, .inl rfl⟩
      subst hsize
      rcases hown.2 with ⟨rfl, rfl⟩ | ⟨g, cap, cur, rfl, hbg, hg, hnc, hcm, hcs, htake⟩
      · simp [Builtin.append_, run_underlying ht, sizeOf, typeInfo, hi, Builtin.lenOf, Builtin.firstCells]
      · simp [Builtin.append_, run_underlying ht, sizeOf, typeInfo, hi, Builtin.lenOf, Builtin.firstCells, loadCells, hnc, storeCells]
  · obtain ⟨ad, rfl, hc⟩ := hnews hm
    obtain ⟨v', w', a1, a2, a3, a4, a5⟩ := run_append_own_at (P := P) w base t ty e i z size bytes ht hi hz hsize hby hzs hsz v n xs hown ad m c news hl hc h1 h63 hbytes hbase
    exact ⟨v', w', a1, a2, a3, a5⟩
theorem wp_append_all {o : Oper} {a : Act} {K : Act → World → Prop} {Q : Exit → Act → World → Prop} (s x : Operand) (t : TypeId)
    (ho : o.op = .call { callee := .builtin .append, args := #[s, x], argTypes := #[t, t] })
    (base : Nat) (e : TypeId) (i : TypeInfo) (z : Value) (size bytes : Nat) (ht : P.underlying t = some (.slice e)) (hi : P.info? e = some i) (hz : i.zero = some z)
    (hsize : i.size = size) (hby : i.bytes = bytes) (hzs : z.cells.size = size) (hsz : 0 < size)
    (v : Value) (n : Nat) (xs : List Value) (hs : a.eval s = v) (hown : w.ownsRow base e size v n xs)
    (A : Option Addr) (m c : Nat) (news : List Value) (hx : a.eval x = .slice A m c) (hl : news.length = m * size) (hnews : m ≠ 0 → ∃ ad, A = some ad ∧ ∀ j u, news[j]? = some u → w.cell? (ad.add j) = some u) (h1 : ∀ u ∈ news, u.oneCell' = true)
    (h63 : n + m ≤ maxLen) (hbytes : (n + m) * bytes ≤ 140737488355328) (hbase : base ≤ w.heap.size)
    (h : ∀ v' w', w'.ownsRow base e size v' (n + m) (xs ++ news) → w.grownBy w' v.ownBlock → (v'.ownBlock = v.ownBlock ∨ v'.ownBlock = some w.heap.size) → K (a.put o.dst v') w') : o.wp P a w K Q := by
  obtain ⟨v', w', hr, h2, h3, h4⟩ := run_append_all (P := P) w base t o.type e i z size bytes ht hi hz hsize hby hzs hsz v n xs hown A m c news hl hnews h1 h63 hbytes hbase
  unfold Oper.wp execOp
  simp only [ho, resolve, invoke, builtin, Sem.run_bind, Sem.run_pure, Result.andThen_ok, List.map_toArray, List.map_cons, List.map_nil, hs, hx, hr]
  exact h v' w' h2 h3 h4
theorem wpList_append_all {ops : Array Oper} {rest : List Oper} {o : Oper} {a : Act} {Q : Exit → Act → World → Prop} (hgd : o.guard = none) (s x : Operand) (t : TypeId)
    (ho : o.op = .call { callee := .builtin .append, args := #[s, x], argTypes := #[t, t] })
    (base : Nat) (e : TypeId) (i : TypeInfo) (z : Value) (size bytes : Nat) (ht : P.underlying t = some (.slice e)) (hi : P.info? e = some i) (hz : i.zero = some z)
    (hsize : i.size = size) (hby : i.bytes = bytes) (hzs : z.cells.size = size) (hsz : 0 < size)
    (v : Value) (n : Nat) (xs : List Value) (hs : a.eval s = v) (hown : w.ownsRow base e size v n xs)
    (A : Option Addr) (m c : Nat) (news : List Value) (hx : a.eval x = .slice A m c) (hl : news.length = m * size) (hnews : m ≠ 0 → ∃ ad, A = some ad ∧ ∀ j u, news[j]? = some u → w.cell? (ad.add j) = some u) (h1 : ∀ u ∈ news, u.oneCell' = true)
    (h63 : n + m ≤ maxLen) (hbytes : (n + m) * bytes ≤ 140737488355328) (hbase : base ≤ w.heap.size)
    (h : ∀ v' w', w'.ownsRow base e size v' (n + m) (xs ++ news) → w.grownBy w' v.ownBlock → (v'.ownBlock = v.ownBlock ∨ v'.ownBlock = some w.heap.size) → wpList P ops Q rest (a.put o.dst v') w') : wpList P ops Q (o :: rest) a w :=
  wpList_plain hgd fun _ hK => wp_append_all w s x t ho base e i z size bytes ht hi hz hsize hby hzs hsz v n xs hs hown A m c news hx hl hnews h1 h63 hbytes hbase fun v' w' h2 h3 h4 => hK _ _ (h v' w' h2 h3 h4)
theorem step_append_all {ops : Array Oper} {o : Oper} {a : Act} {K : Act → World → Prop} {Q : Exit → Act → World → Prop} {E : Prop} (hgd : o.guard = none) (s x : Operand) (t : TypeId)
    (ho : o.op = .call { callee := .builtin .append, args := #[s, x], argTypes := #[t, t] })
    (base : Nat) (e : TypeId) (i : TypeInfo) (z : Value) (size bytes : Nat) (ht : P.underlying t = some (.slice e)) (hi : P.info? e = some i) (hz : i.zero = some z)
    (hsize : i.size = size) (hby : i.bytes = bytes) (hzs : z.cells.size = size) (hsz : 0 < size)
    (v : Value) (n : Nat) (xs : List Value) (hs : a.eval s = v) (hown : w.ownsRow base e size v n xs)
    (A : Option Addr) (m c : Nat) (news : List Value) (hx : a.eval x = .slice A m c) (hl : news.length = m * size) (hnews : m ≠ 0 → ∃ ad, A = some ad ∧ ∀ j u, news[j]? = some u → w.cell? (ad.add j) = some u) (h1 : ∀ u ∈ news, u.oneCell' = true)
    (h63 : n + m ≤ maxLen) (hbytes : (n + m) * bytes ≤ 140737488355328) (hbase : base ≤ w.heap.size)
    (h : ∀ v' w', w'.ownsRow base e size v' (n + m) (xs ++ news) → w.grownBy w' v.ownBlock → (v'.ownBlock = v.ownBlock ∨ v'.ownBlock = some w.heap.size) → K (a.put o.dst v') w') :
    if Region.wanted o (yielded ops a.tmps) = true then Oper.wp P o a w K Q else E := by
  have hw : Region.wanted o (yielded ops a.tmps) = true := by simp [Region.wanted, hgd]
  rw [if_pos hw]
  exact wp_append_all w s x t ho base e i z size bytes ht hi hz hsize hby hzs hsz v n xs hs hown A m c news hx hl hnews h1 h63 hbytes hbase h
end
end Go.Proofs.Ytdhicmbfknagjaa.AppW
