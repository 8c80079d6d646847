/- Two numbers' product in 128 bits; copy within rows of structs; slices.Repeat of one new log. -/
import Derived.Test.YtmflkkianeflaaaNsP
import Derived.Laws.CopyRow
import Derived.Deep.RegionLaw
namespace Go.Proofs.Ytmflkkianeflaaa.NsQ
set_option maxRecDepth 8000
open Go.RowKit
open Ls Ow NsP
open Recs (hsz below1 below2 chain)
set_option linter.unusedVariables false
set_option maxHeartbeats 800000 in
theorem mul64 (n : Nat) (h : 1 ≤ n ∧ n ≤ 12) (w : World) : Calls Try.prog 66 #[.int .u64 1, .int .u64 n] w fun e w' => e = .returned (.tuple #[.int .u64 0, .int .u64 n]) ∧ w = w' := by
  obtain rfl | rfl | rfl | rfl | rfl | rfl | rfl | rfl | rfl | rfl | rfl | rfl : n = 1 ∨ n = 2 ∨ n = 3 ∨ n = 4 ∨ n = 5 ∨ n = 6 ∨ n = 7 ∨ n = 8 ∨ n = 9 ∨ n = 10 ∨ n = 11 ∨ n = 12 := by omega
  all_goals
    go_enter Try.func66, Try.ntmps66
    go_wp2
    (try simp only [Exit.inBlock, Exit.then])
    refine bodyPost_ret (results_tmp2 rfl _ _ _) rfl ?_
    exact ⟨rfl, rfl⟩
set_option maxHeartbeats 800000 in
theorem mul (n : Nat) (h : 1 ≤ n ∧ n ≤ 12) (w : World) : Calls Try.prog 46 #[.int .u64 1, .int .u64 n] w fun e w' => e = .returned (.tuple #[.int .u64 0, .int .u64 n]) ∧ w = w' := by
  go_enter Try.func46, Try.ntmps46
  go_wp2_with fail
  refine (mul64 n h w).mono ?_
  rintro e w1 ⟨rfl, rfl⟩
  go_wp2
  (try simp only [Exit.inBlock, Exit.then])
  refine bodyPost_ret (results_tmp2 rfl _ _ _) rfl ?_
  exact ⟨rfl, rfl⟩
section
variable {P : Program} (w : World)
theorem run_copy_seg (dT sT ty e : TypeId) (i : TypeInfo) (s : Nat) (hu : P.underlying dT = some (.slice e)) (hi : P.info? e = some i) (hs : i.size = s) (g o dl dc : Nat) (ad : Addr) (sl sc m : Nat) (hm : Nat.min sl dl = m) (cur : Array Value) (t : TypeId) (cs : List Value)
    (hg : w.heap[g]? = some (.cells cur t (0, 0))) (hn : cs.length = m * s) (hsrc : ∀ j v, cs[j]? = some v → w.cell? (ad.add j) = some v) (hfit : o + cs.length ≤ cur.size) (h1 : ∀ v ∈ cs, v.oneCell' = true) :
    (Builtin.copy_ #[dT, sT] ty #[.slice (some ⟨g, o, none⟩) dl dc, .slice (some ad) sl sc]).run P w = .ok (goInt m) (w.setRow g (cur.toList.take o ++ cs ++ cur.toList.drop (o + cs.length)).toArray) := by
  subst hs
  have hl := run_loadCells_list (P := P) w ad cs hsrc
  have hst := run_storeCells_at P g o t cs 0 cur w hg (by simpa using hfit) h1
  subst hm
  simp [Builtin.copy_, run_underlying hu, Builtin.lenOf, Builtin.firstCells, sizeOf, typeInfo, hi, ← hn, hl, hst]
theorem wp_copy_seg {o : Oper} {a : Act} {K : Act → World → Prop} {Q : Exit → Act → World → Prop} (d s : Operand) (t t' : TypeId) (ho : o.op = .call { callee := .builtin .copy, args := #[d, s], argTypes := #[t, t'] })
    (e : TypeId) (i : TypeInfo) (z : Nat) (hu : P.underlying t = some (.slice e)) (hi : P.info? e = some i) (hz : i.size = z) (g of dl dc : Nat) (hd : a.eval d = .slice (some ⟨g, of, none⟩) dl dc) (ad : Addr) (sl sc m : Nat) (hs : a.eval s = .slice (some ad) sl sc) (hm : Nat.min sl dl = m) (cur : Array Value) (ty : TypeId) (cs : List Value)
    (hg : w.heap[g]? = some (.cells cur ty (0, 0))) (hn : cs.length = m * z) (hsrc : ∀ j v, cs[j]? = some v → w.cell? (ad.add j) = some v) (hfit : of + cs.length ≤ cur.size) (h1 : ∀ v ∈ cs, v.oneCell' = true)
    (h : K (a.put o.dst (goInt m)) (w.setRow g (cur.toList.take of ++ cs ++ cur.toList.drop (of + cs.length)).toArray)) : o.wp P a w K Q := by
  have hr := run_copy_seg (P := P) w t t' o.type e i z hu hi hz g of dl dc ad sl sc m hm cur ty cs hg hn hsrc hfit h1
  unfold Oper.wp execOp
  simp only [ho, resolve, invoke, builtin, Sem.run_bind, Sem.run_pure, Result.andThen_ok, List.map_toArray, List.map_cons, List.map_nil, hd, hs, hr]
  exact h
theorem wpList_copy_seg {ops : Array Oper} {rest : List Oper} {o : Oper} {a : Act} {Q : Exit → Act → World → Prop} (hgd : o.guard = none) (d s : Operand) (t t' : TypeId) (ho : o.op = .call { callee := .builtin .copy, args := #[d, s], argTypes := #[t, t'] })
    (e : TypeId) (i : TypeInfo) (z : Nat) (hu : P.underlying t = some (.slice e)) (hi : P.info? e = some i) (hz : i.size = z) (g of dl dc : Nat) (hd : a.eval d = .slice (some ⟨g, of, none⟩) dl dc) (ad : Addr) (sl sc m : Nat) (hs : a.eval s = .slice (some ad) sl sc) (hm : Nat.min sl dl = m) (cur : Array Value) (ty : TypeId) (cs : List Value)
    (hg : w.heap[g]? = some (.cells cur ty (0, 0))) (hn : cs.length = m * z) (hsrc : ∀ j v, cs[j]? = some v → w.cell? (ad.add j) = some v) (hfit : of + cs.length ≤ cur.size) (h1 : ∀ v ∈ cs, v.oneCell' = true)
    (h : wpList P ops Q rest (a.put o.dst (goInt m)) (w.setRow g (cur.toList.take of ++ cs ++ cur.toList.drop (of + cs.length)).toArray)) : wpList P ops Q (o :: rest) a w :=
  wpList_plain hgd fun _ hK => wp_copy_seg w d s t t' ho e i z hu hi hz g of dl dc hd ad sl sc m hs hm cur ty cs hg hn hsrc hfit h1 (hK _ _ h)
theorem step_copy_seg {ops : Array Oper} {o : Oper} {a : Act} {K : Act → World → Prop} {Q : Exit → Act → World → Prop} {E : Prop} (hgd : o.guard = none) (d s : Operand) (t t' : TypeId) (ho : o.op = .call { callee := .builtin .copy, args := #[d, s], argTypes := #[t, t'] })
    (e : TypeId) (i : TypeInfo) (z : Nat) (hu : P.underlying t = some (.slice e)) (hi : P.info? e = some i) (hz : i.size = z) (g of dl dc : Nat) (hd : a.eval d = .slice (some ⟨g, of, none⟩) dl dc) (ad : Addr) (sl sc m : Nat) (hs : a.eval s = .slice (some ad) sl sc) (hm : Nat.min sl dl = m) (cur : Array Value) (ty : TypeId) (cs : List Value)
    (hg : w.heap[g]? = some (.cells cur ty (0, 0))) (hn : cs.length = m * z) (hsrc : ∀ j v, cs[j]? = some v → w.cell? (ad.add j) = some v) (hfit : of + cs.length ≤ cur.size) (h1 : ∀ v ∈ cs, v.oneCell' = true)
    (h : K (a.put o.dst (goInt m)) (w.setRow g (cur.toList.take of ++ cs ++ cur.toList.drop (of + cs.length)).toArray)) :
    if Region.wanted o (yielded ops a.tmps) = true then Oper.wp P o a w K Q else E := by
  have hw : Region.wanted o (yielded ops a.tmps) = true := by simp [Region.wanted, hgd]
  rw [if_pos hw]
  exact wp_copy_seg w d s t t' ho e i z hu hi hz g of dl dc hd ad sl sc m hs hm cur ty cs hg hn hsrc hfit h1 h
end
theorem rep_add (roll : Int) (k : Nat) : ∀ m, rep roll (k + m) = rep roll k ++ rep roll m
  | 0 => by simp [rep]
  | m + 1 => by rw [← Nat.add_assoc, rep_succ, rep_add roll k m, rep_succ roll m, List.append_assoc]
theorem rep_one (roll : Int) : ∀ (k : Nat) (u : Value), u ∈ rep roll k → u.oneCell' = true
  | 0, u, h => by simp [rep] at h
  | k + 1, u, h => by
    rw [rep_succ, List.mem_append] at h
    rcases h with h | h
    · exact rep_one roll k u h
    · simp only [pt, List.mem_cons, List.not_mem_nil, or_false] at h
      rcases h with h | h | h | h <;> (subst h; rfl)
/-- The row is filled so far: k voters. -/
structure Rp (w wr : World) (roll : Int) (n k : Nat) (cur : Array Value) : Prop where
  row : wr.heap[w.heap.size]? = some (.cells cur 44 (0, 0))
  size : cur.size = n * 4
  front : cur.toList.take (k * 4) = rep roll k
  bel : Below w.heap.size w wr
theorem Rp.next {w wr : World} {roll : Int} {n k m : Nat} {cur : Array Value} (h : Rp w wr roll n k cur) (hm : k + m ≤ n) :
    Rp w (wr.setRow w.heap.size (cur.toList.take (k * 4) ++ rep roll m ++ cur.toList.drop (k * 4 + (rep roll m).length)).toArray) roll n (k + m) (cur.toList.take (k * 4) ++ rep roll m ++ cur.toList.drop (k * 4 + (rep roll m).length)).toArray := by
  have hl : cur.toList.length = n * 4 := by simpa using h.size
  refine ⟨setRow_heap wr _ cur _ _ _ h.row, ?_, ?_, ?_⟩
  · simp [rep_len, hl]; omega
  · rw [h.front]
    simp only [List.append_assoc]
    rw [← List.append_assoc, ← rep_add, List.take_append_of_le_length (by rw [rep_len]; exact Nat.le_refl _)]
    exact List.take_of_length_le (by rw [rep_len]; exact Nat.le_refl _)
  · exact ⟨h.bel.os, h.bel.tape, h.bel.output, by simpa [World.setRow] using h.bel.size, fun x hx => (setRow_other wr _ x _ (by omega)).trans (h.bel.block x hx)⟩
theorem Rp.src {w wr : World} {roll : Int} {n k m : Nat} {cur : Array Value} (h : Rp w wr roll n k cur) (hm : m ≤ k) : ∀ j u, (rep roll m)[j]? = some u → wr.cell? ((⟨w.heap.size, 0, none⟩ : Addr).add j) = some u := fun j u hj => by
  refine World.news_of_block h.row j u ?_
  have hlt : j < m * 4 := by have := (List.getElem?_eq_some_iff.1 hj).1; rwa [rep_len] at this
  have : (cur.toList.take (k * 4))[j]? = (rep roll k)[j]? := by rw [h.front]
  rw [List.getElem?_take_of_lt (by omega)] at this
  rw [this]
  obtain ⟨d, rfl⟩ : ∃ d, k = m + d := ⟨k - m, by omega⟩
  rw [rep_add, List.getElem?_append_left (by rw [rep_len]; exact hlt)]
  exact hj
set_option maxHeartbeats 3200000 in
theorem repeat_any (roll : Int) (b n : Nat) (h : 1 ≤ n ∧ n ≤ 12) (w : World) (hb : w.heap[b]? = some (.cells (pt roll) 44 (0, 0))) :
    Calls Try.prog 29 #[.slice (some ⟨b, 0, none⟩) 1 1, .int .i64 n] w fun e w' => e = .returned (.slice (some ⟨w.heap.size, 0, none⟩) n n) ∧ w'.ownsRow w.heap.size 44 4 (.slice (some ⟨w.heap.size, 0, none⟩) n n) n (rep roll n) ∧ Below w.heap.size w w' := by
  obtain ⟨i0, hi, hz0, hz1, hz2⟩ := info_parts infoZLg
  have HB := Seg.hid hb
  have hbl : b < w.heap.size := (Array.getElem?_eq_some_iff.1 hb).1
  have hn0 : ¬ (n : Int) < 0 := by omega
  clear hb
  go_enter Try.func29, Try.ntmps29
  go_wp2_with fail
  refine (mul n h w).mono ?_
  rintro e w1 ⟨rfl, rfl⟩
  go_upto_region 7 with (at_make; refine wpList_make_full _ rfl _ _ 28 rfl w.heap.size 44 i0 _ 4 Try.underlying28 hi hz0 hz1 .i64 .i64 _ _ n rfl rfl rfl rfl (by rw [hz2]; omega) (by unfold maxLen; omega) (Nat.le_refl _) ?_; intro w1 hown hgr)
  have hb1 := (Below.refl w.heap.size w).grown hgr (Nat.le_refl _) (fun k hk => by cases hk)
  obtain ⟨cur, R0⟩ : ∃ cur, Rp w w1 roll n 0 cur := by
    rcases hown.2 with ⟨h1, _⟩ | ⟨g', cap, cur, h1, hbs, hgg, hnc, hcm, hcs, htake⟩
    · simp at h1
    · simp only [Value.slice.injEq, Option.some.injEq, Addr.mk.injEq, and_true, true_and] at h1
      obtain ⟨rfl, rfl⟩ := h1
      exact ⟨cur, hgg, hcs, by simp [rep], hb1⟩
  have H0 := Seg.hid R0
  have s0 := hb1.size
  have SB : Hid (w1.heap[b]? = some (.cells (pt roll) 44 (0, 0))) := (hb1.block b hbl).trans HB.out
  clear hown hgr hb1 R0
  have PL : Hid ((pt roll).toList = rep roll 1) := by show _ = _; rw [show (1 : Nat) = 0 + 1 from rfl, rep_succ]; simp [rep]
  have R1 : Hid (∃ c', Rp w (w1.setRow w.heap.size (cur.toList.take 0 ++ (pt roll).toList ++ cur.toList.drop (0 + (pt roll).toList.length)).toArray) roll n 1 c') := by
    have := H0.out.next (m := 1) (by omega)
    simp only [Nat.zero_mul, Nat.zero_add] at this
    rw [← PL.out] at this
    simp only [Nat.zero_add]
    exact ⟨_, this⟩
  have F1 : Hid (0 + (pt roll).toList.length ≤ cur.size) := by show _ ≤ _; rw [H0.out.size]; show 4 ≤ _; omega
  have O1 : Hid (∀ u ∈ (pt roll).toList, u.oneCell' = true) := fun u hu => rep_one roll 1 u (by rw [← PL.out]; exact hu)
  have M1 : Hid (Nat.min 1 n = 1) := by show Nat.min 1 n = 1; exact Nat.min_eq_left h.1
  go_wp2_with (refine wpList_copy_seg w1 rfl (.tmp 31) (.tmp 32) 28 28 rfl 44 i0 4 Try.underlying28 hi hz1 w.heap.size 0 n n rfl ⟨b, 0, none⟩ 1 1 1 rfl M1.out cur 44 (pt roll).toList H0.out.row rfl (World.news_of_block SB.out) F1.out O1.out ?_)
  go_loopw [8] (fun i wr => ∃ (k : Nat) (cur : Array Value), 1 ≤ k ∧ k ≤ n ∧ i = .int .i64 k ∧ Rp w wr roll n k cur) (fun i _ => n - (intOf i).toNat)
  case atStart =>
    obtain ⟨c', hc'⟩ := R1.out
    exact ⟨1, c', by omega, h.1, rfl, hc'⟩
  case round =>
    clear R1 F1 O1 M1 H0
    obtain ⟨k, cur, hk1, hk, rfl, HR⟩ := hrel
    have HQ := Seg.hid HR
    clear HR
    by_cases hlt : k < n
    · have h1 : (k : Int) < (n : Int) := by omega
      obtain ⟨m, hm⟩ : ∃ m, Nat.min k (n - k) = m := ⟨_, rfl⟩
      have hm1 : 1 ≤ m ∧ m ≤ k ∧ k + m ≤ n := by
        have a1 := Nat.min_le_left k (n - k)
        have a2 := Nat.min_le_right k (n - k)
        have a3 : 1 ≤ Nat.min k (n - k) := Nat.le_min.2 ⟨hk1, by omega⟩
        have e : min k (n - k) = m := hm
        have e' : Nat.min k (n - k) = m := hm
        rw [e'] at a3
        rw [e] at a1 a2
        omega
      have HM := Seg.hid hm
      obtain ⟨hma, hmb, hmc⟩ := id hm1
      have hkn : k + m ≤ 12 := by omega
      have hwr : IntKind.i64.wrap ((k : Int) + (m : Int)) = (k : Int) + (m : Int) := by rw [IntKind.wrap_i64] <;> omega
      have hwp : IntKind.i64.wrap ((k + m : Nat) : Int) = ((k + m : Nat) : Int) := by rw [IntKind.wrap_i64] <;> omega
      have SR := Seg.hid (HQ.out.src hm1.2.1)
      have FT : Hid (k * 4 + (rep roll m).length ≤ cur.size) := by show _ ≤ _; rw [HQ.out.size, rep_len]; omega
      have NX : Hid (Rp w (wr.drew.setRow w.heap.size (cur.toList.take (k * 4) ++ (rep roll m ++ cur.toList.drop (k * 4 + (rep roll m).length))).toArray) roll n (k + m) (cur.toList.take (k * 4) ++ (rep roll m ++ cur.toList.drop (k * 4 + (rep roll m).length))).toArray) := by
        have a := HQ.out.next hm1.2.2
        simp only [List.append_assoc] at a
        exact ⟨a.row, a.size, a.front, ⟨a.bel.os, a.bel.tape, a.bel.output, a.bel.size, a.bel.block⟩⟩
      have hne : ¬ n = k := by omega
      have h2 : (0 : Int) ≤ (k : Int) := by omega
      have h3 : (k : Int) ≤ (n : Int) := by omega
      clear hm
      go_wp2_with fail
      go_region_law
        ((first | (refine step_copy_seg _ (by rfl) (.tmp 41) (.tmp 44) 28 28 (by rfl) 44 i0 4 Try.underlying28 hi hz1 w.heap.size (k * 4) (n - k) (n - k) (by rfl) ⟨w.heap.size, 0, none⟩ k n m (by rfl) HM.out cur 44 (rep roll m) HQ.out.row (rep_len roll m) SR.out FT.out (rep_one roll m) ?_)))
      all_goals
        go_wp2
        go_roundw
        case rel =>
          first
            | exact ⟨k + m, _, by omega, by omega, by go_num, NX.out⟩
            | ((repeat apply Exists.intro); exact ⟨⟨k + m, _, by omega, by omega, by go_num, NX.out⟩, rfl⟩)
            | exact ⟨.int .i64 ((k : Int) + (m : Int)), _, _, _, _, _, _, _, _, _, _, _, _, _, ⟨k + m, _, by omega, by omega, by go_num, NX.out⟩, rfl⟩
        case measure =>
          first
            | (simp [intOf]; omega)
            | (show n - (intOf (Value.int .i64 ((k : Int) + (m : Int)))).toNat < n - (intOf (Value.int .i64 (k : Int))).toNat; simp [intOf]; omega)
            | (rw [hwr]; show n - (intOf (Value.int .i64 ((k : Int) + (m : Int)))).toNat < n - (intOf (Value.int .i64 (k : Int))).toNat; simp [intOf]; omega)
    · have hk' : k = n := by omega
      subst hk'
      go_wp2
      go_ret
      exact ⟨rfl, ⟨rep_len roll k, .inr ⟨w.heap.size, k, cur, rfl, Nat.le_refl _, HQ.out.row, Nat.le_refl _, by unfold maxLen; omega, HQ.out.size, HQ.out.front⟩⟩, HQ.out.bel⟩
end Go.Proofs.Ytmflkkianeflaaa.NsQ
