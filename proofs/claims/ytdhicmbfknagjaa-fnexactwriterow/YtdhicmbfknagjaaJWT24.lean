/- A whole slice, or nothing, appended onto nil or a row of the call's own; The names of a field, and the program's question whether it is right. -/
import Derived.Maps.AppendAt
import Derived.Deep.AppendLies
import Derived.Test.YtdhicmbfknagjaaJWT02
import Derived.Test.YtdhicmbfknagjaaJWT22
import Derived.Test.YtdhicmbfknagjaaJWT23
namespace Go.Proofs.Ytdhicmbfknagjaa.AppW
set_option maxRecDepth 8000
open Go.RowKit
set_option linter.unusedVariables false
section
variable {P : Program} (w : World)
theorem run_append_all (base : Nat) (t ty e : TypeId) (i : TypeInfo) (z : Value) (size bytes : Nat) (ht : P.underlying t = some (.slice e)) (hi : P.info? e = some i) (hz : i.zero = some z)
    (hsize : i.size = size) (hby : i.bytes = bytes) (hzs : z.cells.size = size) (hsz : 0 < size)
    (v : Value) (n : Nat) (xs : List Value) (hown : w.ownsRow base e size v n xs)
    (A : Option Addr) (m c : Nat) (news : List Value) (hl : news.length = m * size) (hnews : m ≠ 0 → ∃ ad, A = some ad ∧ ∀ j u, news[j]? = some u → w.cell? (ad.add j) = some u) (h1 : ∀ u ∈ news, u.oneCell' = true)
    (h63 : n + m ≤ maxLen) (hbytes : (n + m) * bytes ≤ 140737488355328) (hbase : base ≤ w.heap.size) :
    ∃ v' w', (Builtin.append_ #[t, t] ty #[v, .slice A m c]).run P w = .ok v' w' ∧ w'.ownsRow base e size v' (n + m) (xs ++ news) ∧ w.grownBy w' v.ownBlock ∧ (v'.ownBlock = v.ownBlock ∨ v'.ownBlock = some w.heap.size) := by
  by_cases hm : m = 0
  · subst hm
    have hn : news = [] := List.eq_nil_of_length_eq_zero (by simpa using hl)
    subst hn
    cases A with
    | some ad =>
      obtain ⟨v', w', a1, a2, a3, a4, a5⟩ := run_append_own_at (P := P) w base t ty e i z size bytes ht hi hz hsize hby hzs hsz v n xs hown ad 0 c [] (by simp) (by simp) (by simp) h63 hbytes hbase
      exact ⟨v', w', a1, a2, a3, a5⟩
    | none =>
      refine ⟨v, w, ?_, by simpa using hown, ⟨rfl, rfl, rfl, Nat.le_refl _, fun _ _ _ => rfl⟩, .inl rfl⟩
      subst hsize
      rcases hown.2 with ⟨rfl, rfl⟩ | ⟨g, cap, cur, rfl, hbg, hg, hnc, hcm, hcs, htake⟩
      · simp [Builtin.append_, run_underlying ht, sizeOf, typeInfo, hi, Builtin.lenOf, Builtin.firstCells]
      · simp [Builtin.append_, run_underlying ht, sizeOf, typeInfo, hi, Builtin.lenOf, Builtin.firstCells, loadCells, hnc, storeCells]
  · obtain ⟨ad, rfl, hc⟩ := hnews hm
    obtain ⟨v', w', a1, a2, a3, a4, a5⟩ := run_append_own_at (P := P) w base t ty e i z size bytes ht hi hz hsize hby hzs hsz v n xs hown ad m c news hl hc h1 h63 hbytes hbase
    exact ⟨v', w', a1, a2, a3, a5⟩
theorem wp_append_all {o : Oper} {a : Act} {K : Act → World → Prop} {Q : Exit → Act → World → Prop} (s x : Operand) (t : TypeId)
    (ho : o.op = .call { callee := .builtin .append, args := #[s, x], argTypes := #[t, t] })
    (base : Nat) (e : TypeId) (i : TypeInfo) (z : Value) (size bytes : Nat) (ht : P.underlying t = some (.slice e)) (hi : P.info? e = some i) (hz : i.zero = some z)
    (hsize : i.size = size) (hby : i.bytes = bytes) (hzs : z.cells.size = size) (hsz : 0 < size)
    (v : Value) (n : Nat) (xs : List Value) (hs : a.eval s = v) (hown : w.ownsRow base e size v n xs)
    (A : Option Addr) (m c : Nat) (news : List Value) (hx : a.eval x = .slice A m c) (hl : news.length = m * size) (hnews : m ≠ 0 → ∃ ad, A = some ad ∧ ∀ j u, news[j]? = some u → w.cell? (ad.add j) = some u) (h1 : ∀ u ∈ news, u.oneCell' = true)
    (h63 : n + m ≤ maxLen) (hbytes : (n + m) * bytes ≤ 140737488355328) (hbase : base ≤ w.heap.size)
    (h : ∀ v' w', w'.ownsRow base e size v' (n + m) (xs ++ news) → w.grownBy w' v.ownBlock → (v'.ownBlock = v.ownBlock ∨ v'.ownBlock = some w.heap.size) → K (a.put o.dst v') w') : o.wp P a w K Q := by
  obtain ⟨v', w', hr, h2, h3, h4⟩ := run_append_all (P := P) w base t o.type e i z size bytes ht hi hz hsize hby hzs hsz v n xs hown A m c news hl hnews h1 h63 hbytes hbase
  unfold Oper.wp execOp
  simp only [ho, resolve, invoke, builtin, Sem.run_bind, Sem.run_pure, Result.andThen_ok, List.map_toArray, List.map_cons, List.map_nil, hs, hx, hr]
  exact h v' w' h2 h3 h4
theorem wpList_append_all {ops : Array Oper} {rest : List Oper} {o : Oper} {a : Act} {Q : Exit → Act → World → Prop} (hgd : o.guard = none) (s x : Operand) (t : TypeId)
    (ho : o.op = .call { callee := .builtin .append, args := #[s, x], argTypes := #[t, t] })
    (base : Nat) (e : TypeId) (i : TypeInfo) (z : Value) (size bytes : Nat) (ht : P.underlying t = some (.slice e)) (hi : P.info? e = some i) (hz : i.zero = some z)
    (hsize : i.size = size) (hby : i.bytes = bytes) (hzs : z.cells.size = size) (hsz : 0 < size)
    (v : Value) (n : Nat) (xs : List Value) (hs : a.eval s = v) (hown : w.ownsRow base e size v n xs)
    (A : Option Addr) (m c : Nat) (news : List Value) (hx : a.eval x = .slice A m c) (hl : news.length = m * size) (hnews : m ≠ 0 → ∃ ad, A = some ad ∧ ∀ j u, news[j]? = some u → w.cell? (ad.add j) = some u) (h1 : ∀ u ∈ news, u.oneCell' = true)
    (h63 : n + m ≤ maxLen) (hbytes : (n + m) * bytes ≤ 140737488355328) (hbase : base ≤ w.heap.size)
    (h : ∀ v' w', w'.ownsRow base e size v' (n + m) (xs ++ news) → w.grownBy w' v.ownBlock → (v'.ownBlock = v.ownBlock ∨ v'.ownBlock = some w.heap.size) → wpList P ops Q rest (a.put o.dst v') w') : wpList P ops Q (o :: rest) a w :=
  wpList_plain hgd fun _ hK => wp_append_all w s x t ho base e i z size bytes ht hi hz hsize hby hzs hsz v n xs hs hown A m c news hx hl hnews h1 h63 hbytes hbase fun v' w' h2 h3 h4 => hK _ _ (h v' w' h2 h3 h4)
theorem step_append_all {ops : Array Oper} {o : Oper} {a : Act} {K : Act → World → Prop} {Q : Exit → Act → World → Prop} {E : Prop} (hgd : o.guard = none) (s x : Operand) (t : TypeId)
    (ho : o.op = .call { callee := .builtin .append, args := #[s, x], argTypes := #[t, t] })
    (base : Nat) (e : TypeId) (i : TypeInfo) (z : Value) (size bytes : Nat) (ht : P.underlying t = some (.slice e)) (hi : P.info? e = some i) (hz : i.zero = some z)
    (hsize : i.size = size) (hby : i.bytes = bytes) (hzs : z.cells.size = size) (hsz : 0 < size)
    (v : Value) (n : Nat) (xs : List Value) (hs : a.eval s = v) (hown : w.ownsRow base e size v n xs)
    (A : Option Addr) (m c : Nat) (news : List Value) (hx : a.eval x = .slice A m c) (hl : news.length = m * size) (hnews : m ≠ 0 → ∃ ad, A = some ad ∧ ∀ j u, news[j]? = some u → w.cell? (ad.add j) = some u) (h1 : ∀ u ∈ news, u.oneCell' = true)
    (h63 : n + m ≤ maxLen) (hbytes : (n + m) * bytes ≤ 140737488355328) (hbase : base ≤ w.heap.size)
    (h : ∀ v' w', w'.ownsRow base e size v' (n + m) (xs ++ news) → w.grownBy w' v.ownBlock → (v'.ownBlock = v.ownBlock ∨ v'.ownBlock = some w.heap.size) → K (a.put o.dst v') w') :
    if Region.wanted o (yielded ops a.tmps) = true then Oper.wp P o a w K Q else E := by
  have hw : Region.wanted o (yielded ops a.tmps) = true := by simp [Region.wanted, hgd]
  rw [if_pos hw]
  exact wp_append_all w s x t ho base e i z size bytes ht hi hz hsize hby hzs hsz v n xs hs hown A m c news hx hl hnews h1 h63 hbytes hbase h
end
end Go.Proofs.Ytdhicmbfknagjaa.AppW
namespace Go.Proofs.Ytdhicmbfknagjaa.ScN
set_option maxRecDepth 8000
open Go.RowKit
open Ls Lp VkP VkR ScP ScM
open Recs (hsz below1 below2 below3 chain chainD)
set_option linter.unusedVariables false
theorem infoS : (Try.prog.info? 9).map (fun i => (i.zero, i.size, i.bytes)) = some (some (.string ⟨#[]⟩), 1, 16) := by kernel_rfl
/-- A row of texts is a list of the call's own. -/
theorem strs_row {w : World} {B n : Nat} {v : Value} {ns : List ByteArray} (h : w.ownsRow B 9 1 v n (ns.map Value.string)) (hl : ns.length ≤ 1048577) : StrsAt w (seg B w.heap.size) v ns := by
  have hn : ns.length = n := by have := h.1; simpa using this
  subst hn
  refine ⟨by omega, ?_⟩
  rcases h.2 with ⟨rfl, h0⟩ | ⟨g, cap, cur, rfl, hb, hg, hnc, hcm, hcs, htake⟩
  · exact ⟨none, 0, by rw [h0], .inl h0⟩
  · refine ⟨_, cap, rfl, .inr ⟨g, 0, fun i _ => .string (ns.getD i default), rfl, ⟨hb, (Array.getElem?_eq_some_iff.1 hg).1⟩, hnc, fun i hi j hj => ?_, fun i hi => rfl⟩⟩
    obtain rfl : j = 0 := by omega
    have hc : cur.toList[i]? = some (.string (ns.getD i default)) := by
      have h2 : (cur.toList.take (ns.length * 1))[i]? = (ns.map Value.string)[i]? := by rw [htake]
      rw [List.getElem?_take_of_lt (by omega)] at h2
      rw [h2]
      simp [hi]
    have hc2 : cur[i]? = some (.string (ns.getD i default)) := by simpa using hc
    show w.cell? ⟨g, 0 + i * 1 + 0, none⟩ = _
    rw [show 0 + i * 1 + 0 = i by omega]
    simp [World.cell?, hg, hc2]
theorem was_news {w w' : World} {S : Nat → Prop} {A : Option Addr} {c : Nat} {us : List ByteArray} (h : StrsAt w S (.slice A us.length c) us) (hS : ∀ g, S g → w'.heap[g]? = w.heap[g]?) : us.length ≠ 0 → ∃ ad, A = some ad ∧ ∀ j u, (us.map Value.string)[j]? = some u → w'.cell? (ad.add j) = some u := fun h0 => by
  obtain ⟨hn, A', c', e, h⟩ := h
  cases e
  obtain ⟨g, o, F, rfl, hg, hc, hcell, hel⟩ := h.resolve_left h0
  refine ⟨_, rfl, fun j u hu => ?_⟩
  have hj : j < us.length := by
    have := (List.getElem?_eq_some_iff.1 hu).1
    simpa using this
  have e : F j 0 = .string (us.getD j default) := hel j hj
  have cc := hcell j hj 0 (by omega)
  rw [e] at cc
  have hu' : u = .string (us.getD j default) := by simpa [hj] using hu.symm
  have ead : Addr.add ⟨g, o, none⟩ j = ⟨g, o + j, none⟩ := by
    by_cases h0 : j = 0
    · subst h0; rfl
    · simp [Addr.add, h0]
  rw [hu', ead, World.cell?_of_block (w := w) (a := ⟨g, o + j, none⟩) (hS g hg)]
  simpa using cc
set_option maxHeartbeats 1600000 in
theorem names_any (x : Value) (f : Fld) (w : World) (S : Nat → Prop) (hx : FldAt w S x f) (hS : ∀ g, S g → g < w.heap.size) (hf : szFld f ≤ 1048576) :
    Calls Try.prog 89 #[x] w fun e w' => ∃ v, e = .returned v ∧ StrsAt w' (seg w.heap.size w'.heap.size) v (nms f) ∧ Below w.heap.size w w' := by
  obtain ⟨A, c, B, d, rfl, hA, -⟩ := form hx
  have HA := Seg.hid hA
  have hl := len_was hf
  obtain ⟨i0, hi, hz0, hz1, hz2⟩ := info_parts infoS
  clear hx hA hf
  go_enter Try.func89, Try.ntmps89
  have OW : Hid (∀ o : Obj, ((w.alloc o).alloc (.cells #[.string f.name] 9 (0, 0))).ownsRow w.heap.size 9 1 (.slice (some ⟨w.heap.size + 1, 0, none⟩) 1 1) 1 [.string f.name]) := fun o => by
    have hg := heap_alloc_new (w.alloc o) (.cells #[.string f.name] 9 (0, 0))
    rw [hsz] at hg
    exact ⟨rfl, .inr ⟨w.heap.size + 1, 1, #[.string f.name], rfl, by omega, hg, by omega, by unfold maxLen; omega, rfl, rfl⟩⟩
  have NW : Hid (∀ w', Below w.heap.size w w' → f.was.length ≠ 0 → ∃ ad, A = some ad ∧ ∀ j u, (f.was.map Value.string)[j]? = some u → w'.cell? (ad.add j) = some u) := fun w' b => was_news HA.out (fun g hg => b.block g (hS g hg))
  go_wp2_with (at_builtin; refine AppW.wpList_append_all _ rfl _ _ 81 rfl w.heap.size 9 i0 _ 1 16 Try.underlying81 hi hz0 hz1 hz2 rfl (by decide) _ 1 [.string f.name] rfl (OW.out _) A f.was.length c (f.was.map Value.string) rfl (by simp) (NW.out _ (below2 w _ _)) (by simp [Value.oneCell']) (by unfold maxLen; omega) (by omega) (by rw [hsz, hsz]; omega) ?_; intro v' w2 hown hgr hvb)
  go_ret
  refine ⟨_, rfl, ?_, ?_⟩
  · have := strs_row (ns := nms f) (by simpa [nms] using hown) (by simp [nms]; omega)
    exact this
  · exact (below2 w _ _).grown hgr (by rw [hsz, hsz]; omega) (fun k hk => by have hk' : some (w.heap.size + 1) = some k := hk; injection hk' with h; omega)
theorem all_cells {w w1 : World} {f : Fld} {A B : Option Addr} {c d : Nat} (b1 : Below (w.alloc (.cells (frow f A c B d) 86 (0, 0))).heap.size (w.alloc (.cells (frow f A c B d) 86 (0, 0))) w1) : w1.cell? ⟨w.heap.size, 0, none⟩ = some (.string f.name) ∧ w1.cell? ⟨w.heap.size, 1, none⟩ = some (.int .i64 f.kind) ∧ w1.cell? ⟨w.heap.size, 2, none⟩ = some (.bool f.lst) ∧ w1.cell? ⟨w.heap.size, 3, none⟩ = some (.bool f.may) ∧ w1.cell? ⟨w.heap.size, 4, none⟩ = some (.slice A f.was.length c) ∧ w1.cell? ⟨w.heap.size, 5, none⟩ = some (.bool f.fixd) ∧ w1.cell? ⟨w.heap.size, 6, none⟩ = some (.int .i64 f.vk) ∧ w1.cell? ⟨w.heap.size, 7, none⟩ = some (.int .i64 f.vn) ∧ w1.cell? ⟨w.heap.size, 8, none⟩ = some (.string f.vt) ∧ w1.cell? ⟨w.heap.size, 9, none⟩ = some (.bool f.vl) ∧ w1.cell? ⟨w.heap.size, 10, none⟩ = some (.slice B f.vi.length d) := by
  have h := (b1.block w.heap.size (by rw [hsz]; omega)).trans (heap_alloc_new w _)
  exact ⟨cell_of_row w1 _ 0 _ _ (0, 0) h, cell_of_row w1 _ 1 _ _ (0, 0) h, cell_of_row w1 _ 2 _ _ (0, 0) h, cell_of_row w1 _ 3 _ _ (0, 0) h, cell_of_row w1 _ 4 _ _ (0, 0) h, cell_of_row w1 _ 5 _ _ (0, 0) h, cell_of_row w1 _ 6 _ _ (0, 0) h, cell_of_row w1 _ 7 _ _ (0, 0) h, cell_of_row w1 _ 8 _ _ (0, 0) h, cell_of_row w1 _ 9 _ _ (0, 0) h, cell_of_row w1 _ 10 _ _ (0, 0) h⟩
set_option maxHeartbeats 1600000 in
theorem ok_any (x : Value) (f : Fld) (w : World) (S : Nat → Prop) (hx : FldAt w S x f) (hS : ∀ g, S g → g < w.heap.size) (hf : szFld f ≤ 1048576) :
    Calls Try.prog 87 #[x] w fun e w' => e = .returned (.bool (fOk f)) ∧ Below w.heap.size w w' := by
  have HX := Seg.hid hx
  have HF := Seg.hid hf
  obtain ⟨A, c, B, d, rfl, hA, hI⟩ := form hx
  have HI := Seg.hid hI
  clear hx hA hI
  have R0 : Hid (fOk f = (decide (f.was.length ≤ 4) && kOk f.kind && (nms f).all Nm.nameOk && val f)) := rfl
  go_enter Try.func87, Try.ntmps87
  by_cases h4 : 4 < f.was.length
  · have R : Hid (fOk f = false) := by
      show _ = _
      have : ¬ f.was.length ≤ 4 := by omega
      rw [R0.out]; simp [this]
    have q4 : (4 : Int) < (f.was.length : Int) := by omega
    go_wp2
    go_ret
    exact ⟨by rw [R.out]; rfl, below1 _ _⟩
  have q4 : ¬ (4 : Int) < (f.was.length : Int) := by omega
  have R1 : Hid (fOk f = (kOk f.kind && (nms f).all Nm.nameOk && val f)) := by
    show _ = _
    have : f.was.length ≤ 4 := by omega
    rw [R0.out]; simp [this]
  cases hk : kOk f.kind with
  | false =>
    have R : Hid (fOk f = false) := by show _ = _; rw [R1.out]; simp [hk]
    have HK : Hid (inR 1 f.kind 4 = false) := hk
    clear hk
    go_wp2_with (go_at_call 41; refine (InB.within_b _ _ _ _ HK.out _).mono ?_; rintro e w5 ⟨rfl, rfl⟩)
    go_ret
    exact ⟨by rw [R.out]; rfl, below1 _ _⟩
  | true =>
    have R2 : Hid (fOk f = ((nms f).all Nm.nameOk && val f)) := by show _ = _; rw [R1.out]; simp [hk]
    have HK : Hid (inR 1 f.kind 4 = true) := hk
    clear hk
    go_wp2_with (go_at_call 41; refine (InB.within_b _ _ _ _ HK.out _).mono ?_; rintro e w5 ⟨rfl, rfl⟩)
    refine (names_any _ f (w.alloc _) S (HX.out.below (below1 w _) hS) (fun g hg => by rw [hsz]; have := hS g hg; omega) HF.out).mono ?_
    rintro e w1 ⟨vn, rfl, hn, b1⟩
    have B1 := Seg.hid (chain (below1 w _) b1)
    obtain ⟨c0, c1, c2, c3, c4, c5, c6, c7, c8, c9, c10⟩ := all_cells b1
    have s1 : w.heap.size < w1.heap.size := by have := b1.size; rw [hsz] at this; omega
    clear b1
    obtain ⟨An, cn, gn, on, Fn, rfl, OP, hnn⟩ := opn hn (fun g hg => hg.2)
    have HP := Seg.hid OP
    clear hn OP
    have hlen : (nms f).length ≤ 5 := by simp [nms]; omega
    have SZN := Seg.hid (fun k hk => sz_nms HF.out (k := k) hk)
    go_wp2
    go_loop [18] (fun i => ∃ k : Nat, k ≤ (nms f).length ∧ i = .int .i64 k ∧ Hid (((nms f).take k).all Nm.nameOk = true)) (fun i => (nms f).length - (intOf i).toNat)
    case atStart => exact ⟨0, Nat.zero_le _, rfl, (show ((nms f).take 0).all Nm.nameOk = true from rfl)⟩
    case round =>
      obtain ⟨k, hk, rfl, HG⟩ := hrel
      by_cases hlt : k < (nms f).length
      · obtain ⟨ea, hc, hgw⟩ := HP.out.addr.resolve_left (by omega)
        subst ea
        have d0 := strs_cell HP.out rfl hlt
        have h0 : (0 : Int) ≤ (k : Int) := by omega
        have h1 : (k : Int) < ((nms f).length : Int) := by omega
        have TZ : Hid (((nms f).getD k default).size ≤ maxLen) := by show _ ≤ _; have := SZN.out k hlt; unfold maxLen; omega
        have NX := Seg.hid (all_next Nm.nameOk (nms f) k hlt HG.out)
        have BX := Seg.hid (all_bad Nm.nameOk (nms f) k hlt)
        generalize (nms f).getD k default = nk at *
        cases hy : Nm.nameOk nk with
        | true =>
          have NY : Hid (((nms f).take (k + 1)).all Nm.nameOk = true) := NX.out hy
          have HY := Seg.hid hy
          clear hy NX BX
          go_wp2_with (go_at_call 86; refine (Nm.impl_q _ _ HY.out _ TZ.out).mono ?_; rintro e w5 ⟨rfl, rfl⟩)
          go_round
          case rel => exact ⟨k + 1, by omega, by go_num, NY.out⟩
          case measure => simp [intOf]; omega
        | false =>
          have NY : Hid (fOk f = false) := by show _ = _; rw [R2.out, BX.out hy]; rfl
          have HY := Seg.hid hy
          clear hy NX BX
          go_wp2_with (go_at_call 86; refine (Nm.impl_q _ _ HY.out _ TZ.out).mono ?_; rintro e w5 ⟨rfl, rfl⟩)
          go_ret
          exact ⟨by rw [NY.out]; rfl, B1.out⟩
      · obtain rfl : k = (nms f).length := by omega
        have R3 : Hid (fOk f = val f) := by
          show _ = _
          have := HG.out
          rw [List.take_length] at this
          rw [R2.out, this]; rfl
        have VB := Seg.hid (inner (HI.out.below keepsItm B1.out hS))
        have hSw : ∀ g, S g → g < w1.heap.size := fun g hg => Nat.lt_of_lt_of_le (hS g hg) B1.out.size
        obtain ⟨fx, hfx⟩ : ∃ b, f.fixd = b := ⟨_, rfl⟩
        cases fx with
        | true =>
          have R4 : Hid (fOk f = vof f.kind f.lst f.may (vluOf f)) := by show _ = _; rw [R3.out]; simp [val, hfx]
          have CV : Hid (Calls Try.prog 96 #[.agg #[.string f.name, .int .i64 f.kind, .bool f.lst, .bool f.may, .slice A f.was.length c, .bool true, .int .i64 f.vk, .int .i64 f.vn, .string f.vt, .bool f.vl, .slice B f.vi.length d], .agg (vrow (vluOf f) B d)] w1 fun e w' => e = .returned (.bool (vof f.kind f.lst f.may (vluOf f))) ∧ Below w1.heap.size w1 w') := by
            have h := VoI.impl_any _ _ f (vluOf f) w1 S (HX.out.below B1.out hS) VB.out hSw (sz_inner f HF.out)
            rw [frow, hfx] at h
            exact h
          go_wp2_with (go_at_call 96; refine (CV.out).mono ?_; rintro e w2 ⟨rfl, b2⟩; have B2 := Seg.hid (chain B1.out b2); clear b2)
          go_ret
          exact ⟨by rw [R4.out]; rfl, B2.out⟩
        | false =>
          have R4 : Hid (fOk f = zero (vluOf f)) := by show _ = _; rw [R3.out]; simp [val, hfx]
          go_wp2_with (go_at_call 120; refine (VkI.zero_any (vluOf f) B d w1).mono ?_; rintro e w2 ⟨rfl, b2⟩; have B2 := Seg.hid (chain B1.out b2); clear b2)
          go_ret
          exact ⟨by rw [R4.out]; rfl, B2.out⟩
end Go.Proofs.Ytdhicmbfknagjaa.ScN
