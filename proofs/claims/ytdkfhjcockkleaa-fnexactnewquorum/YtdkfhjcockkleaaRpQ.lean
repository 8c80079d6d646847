/- Two numbers' product in 128 bits, of one and few; copy within rows of structs. -/
import Derived.Test.YtdkfhjcockkleaaNqP
import Derived.Laws.CopyRow
namespace Go.Proofs.Ytdkfhjcockkleaa.RpQ
set_option maxRecDepth 8000
open Go.RowKit
open Ls Ow QkP NqP
open Recs (hsz below1 below2 chain)
set_option linter.unusedVariables false
set_option maxHeartbeats 800000 in
theorem mul64 (n : Nat) (h : 1 ≤ n ∧ n ≤ 5) (w : World) : Calls Try.prog 56 #[.int .u64 1, .int .u64 n] w fun e w' => e = .returned (.tuple #[.int .u64 0, .int .u64 n]) ∧ w = w' := by
  obtain rfl | rfl | rfl | rfl | rfl : n = 1 ∨ n = 2 ∨ n = 3 ∨ n = 4 ∨ n = 5 := by omega
  all_goals
    go_enter Try.func56, Try.ntmps56
    go_wp2
    (try simp only [Exit.inBlock, Exit.then])
    refine bodyPost_ret (results_tmp2 rfl _ _ _) rfl ?_
    exact ⟨rfl, rfl⟩
set_option maxHeartbeats 800000 in
theorem mul (n : Nat) (h : 1 ≤ n ∧ n ≤ 5) (w : World) : Calls Try.prog 44 #[.int .u64 1, .int .u64 n] w fun e w' => e = .returned (.tuple #[.int .u64 0, .int .u64 n]) ∧ w = w' := by
  go_enter Try.func44, Try.ntmps44
  go_wp2_with fail
  refine (mul64 n h w).mono ?_
  rintro e w1 ⟨rfl, rfl⟩
  go_wp2
  (try simp only [Exit.inBlock, Exit.then])
  refine bodyPost_ret (results_tmp2 rfl _ _ _) rfl ?_
  exact ⟨rfl, rfl⟩
section
variable {P : Program} (w : World)
theorem run_copy_seg (dT sT ty e : TypeId) (i : TypeInfo) (s : Nat) (hu : P.underlying dT = some (.slice e)) (hi : P.info? e = some i) (hs : i.size = s) (g o dl dc : Nat) (ad : Addr) (sl sc m : Nat) (hm : Nat.min sl dl = m) (cur : Array Value) (t : TypeId) (cs : List Value)
    (hg : w.heap[g]? = some (.cells cur t (0, 0))) (hn : cs.length = m * s) (hsrc : ∀ j v, cs[j]? = some v → w.cell? (ad.add j) = some v) (hfit : o + cs.length ≤ cur.size) (h1 : ∀ v ∈ cs, v.oneCell' = true) :
    (Builtin.copy_ #[dT, sT] ty #[.slice (some ⟨g, o, none⟩) dl dc, .slice (some ad) sl sc]).run P w = .ok (goInt m) (w.setRow g (cur.toList.take o ++ cs ++ cur.toList.drop (o + cs.length)).toArray) := by
  subst hs
  have hl := run_loadCells_list (P := P) w ad cs hsrc
  have hst := run_storeCells_at P g o t cs 0 cur w hg (by simpa using hfit) h1
  subst hm
  simp [Builtin.copy_, run_underlying hu, Builtin.lenOf, Builtin.firstCells, sizeOf, typeInfo, hi, ← hn, hl, hst]
theorem wp_copy_seg {o : Oper} {a : Act} {K : Act → World → Prop} {Q : Exit → Act → World → Prop} (d s : Operand) (t t' : TypeId) (ho : o.op = .call { callee := .builtin .copy, args := #[d, s], argTypes := #[t, t'] })
    (e : TypeId) (i : TypeInfo) (z : Nat) (hu : P.underlying t = some (.slice e)) (hi : P.info? e = some i) (hz : i.size = z) (g of dl dc : Nat) (hd : a.eval d = .slice (some ⟨g, of, none⟩) dl dc) (ad : Addr) (sl sc m : Nat) (hs : a.eval s = .slice (some ad) sl sc) (hm : Nat.min sl dl = m) (cur : Array Value) (ty : TypeId) (cs : List Value)
    (hg : w.heap[g]? = some (.cells cur ty (0, 0))) (hn : cs.length = m * z) (hsrc : ∀ j v, cs[j]? = some v → w.cell? (ad.add j) = some v) (hfit : of + cs.length ≤ cur.size) (h1 : ∀ v ∈ cs, v.oneCell' = true)
    (h : K (a.put o.dst (goInt m)) (w.setRow g (cur.toList.take of ++ cs ++ cur.toList.drop (of + cs.length)).toArray)) : o.wp P a w K Q := by
  have hr := run_copy_seg (P := P) w t t' o.type e i z hu hi hz g of dl dc ad sl sc m hm cur ty cs hg hn hsrc hfit h1
  unfold Oper.wp execOp
  simp only [ho, resolve, invoke, builtin, Sem.run_bind, Sem.run_pure, Result.andThen_ok, List.map_toArray, List.map_cons, List.map_nil, hd, hs, hr]
  exact h
theorem wpList_copy_seg {ops : Array Oper} {rest : List Oper} {o : Oper} {a : Act} {Q : Exit → Act → World → Prop} (hgd : o.guard = none) (d s : Operand) (t t' : TypeId) (ho : o.op = .call { callee := .builtin .copy, args := #[d, s], argTypes := #[t, t'] })
    (e : TypeId) (i : TypeInfo) (z : Nat) (hu : P.underlying t = some (.slice e)) (hi : P.info? e = some i) (hz : i.size = z) (g of dl dc : Nat) (hd : a.eval d = .slice (some ⟨g, of, none⟩) dl dc) (ad : Addr) (sl sc m : Nat) (hs : a.eval s = .slice (some ad) sl sc) (hm : Nat.min sl dl = m) (cur : Array Value) (ty : TypeId) (cs : List Value)
    (hg : w.heap[g]? = some (.cells cur ty (0, 0))) (hn : cs.length = m * z) (hsrc : ∀ j v, cs[j]? = some v → w.cell? (ad.add j) = some v) (hfit : of + cs.length ≤ cur.size) (h1 : ∀ v ∈ cs, v.oneCell' = true)
    (h : wpList P ops Q rest (a.put o.dst (goInt m)) (w.setRow g (cur.toList.take of ++ cs ++ cur.toList.drop (of + cs.length)).toArray)) : wpList P ops Q (o :: rest) a w :=
  wpList_plain hgd fun _ hK => wp_copy_seg w d s t t' ho e i z hu hi hz g of dl dc hd ad sl sc m hs hm cur ty cs hg hn hsrc hfit h1 (hK _ _ h)
theorem step_copy_seg {ops : Array Oper} {o : Oper} {a : Act} {K : Act → World → Prop} {Q : Exit → Act → World → Prop} {E : Prop} (hgd : o.guard = none) (d s : Operand) (t t' : TypeId) (ho : o.op = .call { callee := .builtin .copy, args := #[d, s], argTypes := #[t, t'] })
    (e : TypeId) (i : TypeInfo) (z : Nat) (hu : P.underlying t = some (.slice e)) (hi : P.info? e = some i) (hz : i.size = z) (g of dl dc : Nat) (hd : a.eval d = .slice (some ⟨g, of, none⟩) dl dc) (ad : Addr) (sl sc m : Nat) (hs : a.eval s = .slice (some ad) sl sc) (hm : Nat.min sl dl = m) (cur : Array Value) (ty : TypeId) (cs : List Value)
    (hg : w.heap[g]? = some (.cells cur ty (0, 0))) (hn : cs.length = m * z) (hsrc : ∀ j v, cs[j]? = some v → w.cell? (ad.add j) = some v) (hfit : of + cs.length ≤ cur.size) (h1 : ∀ v ∈ cs, v.oneCell' = true)
    (h : K (a.put o.dst (goInt m)) (w.setRow g (cur.toList.take of ++ cs ++ cur.toList.drop (of + cs.length)).toArray)) :
    if Region.wanted o (yielded ops a.tmps) = true then Oper.wp P o a w K Q else E := by
  have hw : Region.wanted o (yielded ops a.tmps) = true := by simp [Region.wanted, hgd]
  rw [if_pos hw]
  exact wp_copy_seg w d s t t' ho e i z hu hi hz g of dl dc hd ad sl sc m hs hm cur ty cs hg hn hsrc hfit h1 h
end
end Go.Proofs.Ytdkfhjcockkleaa.RpQ
