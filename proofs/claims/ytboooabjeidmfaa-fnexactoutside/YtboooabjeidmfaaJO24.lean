/- The program's Query.joined. -/
import Derived.Test.YtboooabjeidmfaaJO21
import Derived.Test.YtboooabjeidmfaaJO18
namespace Go.Proofs.Ytboooabjeidmfaa.YuI
set_option maxRecDepth 8000
open Go.RowKit
open Ls Lp QyP QsP QtP QuP YcP YsP YtP QsI XqP YtI YvP
open Recs (hsz below1 below2 below3 chain)
set_option linter.unusedVariables false



set_option maxHeartbeats 6400000 in
theorem join_any (q : Qry) (A5 : Option Addr) (c5 : Nat) (A6 : Option Addr) (c6 : Nat) (A10 : Option Addr) (c10 : Nat) (s o : Src) (A B : Option Addr) (c d : Nat) (w : World) (S : Nat → Prop) (hs : LAt 1 EStr w S (.slice A s.cols.length c) s.cols) (ho : LAt 1 EStr w S (.slice B o.cols.length d) o.cols) (hS : ∀ g, S g → g < w.heap.size) (ks : srcOk s = true) (ko : srcOk o = true) :
    Calls Try.prog 87 #[.agg (qrow q A5 c5 A6 c6 A10 c10), sv s A c, sv o B d] w fun e w' => ∃ v, e = .returned (.tuple #[v, .bool (jnB q.on s.cols o.cols)]) ∧ Row w' w.heap.size v (jnR q.on s.cols o.cols) ∧ Below w.heap.size w w' := by
  have HA := Seg.hid hs
  have HB := Seg.hid ho
  have SZ := Seg.hid (jn_sz (on := q.on) ks ko)
  have LA := Seg.hid (src_names ks).1
  have LB := Seg.hid (src_names ko).1
  clear hs ho ks ko
  obtain ⟨B', d', g, oo, F, e0, OP, hn⟩ := opn HB.out hS
  cases e0
  have HO := Seg.hid OP
  clear OP
  obtain ⟨W3, hW3⟩ : ∃ W3, ((w.alloc (.cells (qrow q A5 c5 A6 c6 A10 c10) 39 (0, 0))).alloc (.cells #[.string s.name, .bool s.tab, .slice A s.cols.length c] 62 (0, 0))).alloc (.cells #[.string o.name, .bool o.tab, .slice B o.cols.length d] 62 (0, 0)) = W3 := ⟨_, rfl⟩
  have N3 : Hid (Below w.heap.size w W3) := by show Below _ _ _; rw [← hW3]; exact below3 _ _ _ _
  have T0 : Hid (W3.heap[w.heap.size]? = some (.cells (qrow q A5 c5 A6 c6 A10 c10) 39 (0, 0))) := by
    show _ = _
    rw [← hW3, (below1 _ _).block _ (by rw [hsz, hsz]; omega), (below1 _ _).block _ (by rw [hsz]; omega)]
    exact heap_alloc_new _ _
  have T1 : Hid (W3.heap[w.heap.size + 1]? = some (.cells #[.string s.name, .bool s.tab, .slice A s.cols.length c] 62 (0, 0))) := by
    show _ = _
    rw [← hW3, (below1 _ _).block _ (by rw [hsz, hsz]; omega)]
    have := heap_alloc_new (w.alloc (.cells (qrow q A5 c5 A6 c6 A10 c10) 39 (0, 0))) (.cells #[.string s.name, .bool s.tab, .slice A s.cols.length c] 62 (0, 0))
    rwa [hsz] at this
  have T2 : Hid (W3.heap[w.heap.size + 1 + 1]? = some (.cells #[.string o.name, .bool o.tab, .slice B o.cols.length d] 62 (0, 0))) := by
    show _ = _
    rw [← hW3]
    have := heap_alloc_new ((w.alloc (.cells (qrow q A5 c5 A6 c6 A10 c10) 39 (0, 0))).alloc (.cells #[.string s.name, .bool s.tab, .slice A s.cols.length c] 62 (0, 0))) (.cells #[.string o.name, .bool o.tab, .slice B o.cols.length d] 62 (0, 0))
    rw [hsz, hsz] at this
    exact this
  have CC : Hid (∀ wx, Below w.heap.size w wx → Calls Try.prog 83 #[.slice A s.cols.length c, .string q.on] wx fun e w' => e = .returned (.bool (hasT s.cols q.on)) ∧ wx = w') := fun wx b => YcI.con_any _ s.cols q.on wx S (LAt.below keepsStr HA.out b hS) (fun y hy => Nat.lt_of_lt_of_le (hS y hy) b.size)
  have CL : Hid (∀ wx, Below w.heap.size w wx → Calls Try.prog 70 #[.slice A s.cols.length c] wx fun e w' => ∃ v, e = .returned v ∧ Row w' wx.heap.size v s.cols ∧ Below wx.heap.size wx w') := fun wx b => clone_any A c s.cols wx S (LAt.below keepsStr HA.out b hS) (fun y hy => Nat.lt_of_lt_of_le (hS y hy) b.size) (by have := LA.out; omega)
  have q3 : W3.cell? ⟨w.heap.size, 3, none⟩ = some (.string q.on) := (qcells T0.out).2.2.2.1
  have r2 : W3.cell? ⟨w.heap.size + 1, 2, none⟩ = some (.slice A s.cols.length c) := (gcells T1.out).2.2
  have o2 : W3.cell? ⟨w.heap.size + 1 + 1, 2, none⟩ = some (.slice B o.cols.length d) := (gcells T2.out).2.2
  have z2 : w.heap.size + 1 + 1 < W3.heap.size := (Array.getElem?_eq_some_iff.1 T2.out).1
  clear T0 T1 T2
  obtain ⟨i0, hi, hz0, hz1, hz2⟩ := info_parts infoStr
  have hmm := @run_makeMap Try.prog
  go_enter Try.func87, Try.ntmps87
  go_upto_region 1 with fail
  try rw [hW3]
  clear hW3
  obtain ⟨K, hK⟩ : ∃ K, hasT s.cols q.on = K := ⟨_, rfl⟩
  rw [hK] at CC
  have KK := Seg.hid hK
  clear hK
  cases K with
  | false =>
    have R1 : Hid (jnB q.on s.cols o.cols = false) := by show _ = _; rw [jnB, KK.out]; rfl
    have R2 : Hid (jnR q.on s.cols o.cols = []) := by show _ = _; rw [jnR, KK.out]; rfl
    go_wp2_with (go_at_call 83; refine (CC.out _ N3.out).mono ?_; rintro e w6 ⟨rfl, rfl⟩)
    go_ret2
    refine ⟨_, by rw [R1.out]; rfl, ?_, chain N3.out (below1 _ _)⟩
    rw [R2.out]
    exact row_weak (empty_row W3) (by omega)
  | true =>
  have R1 : Hid (jnB q.on s.cols o.cols = cOk (jnL q.on s.cols o.cols)) := by show _ = _; rw [jnB, KK.out]; rfl
  have R2 : Hid (jnR q.on s.cols o.cols = jnL q.on s.cols o.cols) := by show _ = _; rw [jnR, KK.out]; rfl
  go_upto_region 4 with (first | (go_at_call 83; refine (CC.out _ N3.out).mono ?_; rintro e w6 ⟨rfl, rfl⟩) | (go_at_call 70; refine (CL.out _ N3.out).mono ?_; rintro e w6 ⟨v6, rfl, r6, b6⟩; have ROW6 := Seg.hid r6; have B6 := Seg.hid b6; clear r6 b6))
  have J0 : Hid (Js w w6 W3.heap.size q.on s.cols o.cols 0 v6) := by
    refine ⟨Nat.zero_le _, ?_, chain N3.out B6.out, cell_later q3 (by omega) B6.out, B6.out.size⟩
    have e : jnL q.on s.cols (o.cols.take 0) = s.cols := by simp [jnL]
    rw [e]
    exact ROW6.out
  have o6 := cell_later o2 z2 B6.out
  clear q3 r2 o2
  go_wp2
  go_loopw [8, 24] (fun v i wr => ∃ k : Nat, i = .int .i64 k ∧ Js w wr W3.heap.size q.on s.cols o.cols k v) (fun _ i _ => o.cols.length - (intOf i).toNat)
  case atStart => exact ⟨0, rfl, J0.out⟩
  case round =>
    clear J0 ROW6 B6 o6
    obtain ⟨k, rfl, SS⟩ := hrel
    obtain ⟨v, hv3⟩ : ∃ v, v = u8 := ⟨_, rfl⟩
    rw [← hv3] at SS ⊢
    clear hv3
    have hk := SS.le
    have BW := Seg.hid SS.bel
    have RW := Seg.hid SS.row
    have hsw := SS.siz
    have q3 := SS.blk
    clear SS
    by_cases hlt : k < o.cols.length
    · obtain ⟨ea, hc, hgw⟩ := HO.out.addr.resolve_left (by omega)
      subst ea
      have d0 := strs_cell HO.out (BW.out.block g (by omega)) hlt
      have h0 : (0 : Int) ≤ (k : Int) := by omega
      have h1 : (k : Int) < (o.cols.length : Int) := by omega
      have NN := Seg.hid (jn_next (on := q.on) (a := s.cols) hlt)
      have NL : Hid ((jnL q.on s.cols (o.cols.take k)).length ≤ 24) := by show _ ≤ _; have := jn_len q.on s.cols o.cols k; have := LA.out; have := LB.out; omega
      generalize o.cols.getD k default = m at *
      cases hb : (m.toList == q.on.toList) with
      | true =>
        have NY : Hid (jnL q.on s.cols (o.cols.take (k + 1)) = jnL q.on s.cols (o.cols.take k)) := by show _ = _; rw [NN.out, if_neg (by rw [keepN, hb]; decide)]
        clear NN
        go_wp2
        go_roundw
        case rel => exact ⟨k + 1, by go_num, by omega, by rw [NY.out]; exact RW.out, BW.out, q3, hsw⟩
        case measure => simp [intOf]; omega
      | false =>
        have NY : Hid (jnL q.on s.cols (o.cols.take (k + 1)) = jnL q.on s.cols (o.cols.take k) ++ [m]) := by show _ = _; rw [NN.out, if_pos (by rw [keepN, hb]; decide)]
        clear NN
        have nl := NL.out
        have OW : Hid (∀ ob, (wr.alloc ob).ownsRow W3.heap.size 9 1 v (jnL q.on s.cols (o.cols.take k)).length ((jnL q.on s.cols (o.cols.take k)).map Value.string)) := fun ob => Row.keep RW.out (below1 wr ob)
        go_wp2_with (at_builtin; (refine wpList_append_lies _ rfl _ _ 30 rfl W3.heap.size 9 i0 _ 1 16 Try.underlying30 hi hz0 hz1 hz2 rfl (by decide) v (jnL q.on s.cols (o.cols.take k)).length ((jnL q.on s.cols (o.cols.take k)).map Value.string) rfl (OW.out _) ⟨wr.heap.size, 0, none⟩ 1 1 [.string m] rfl rfl (World.news_of_block (cs := #[.string m]) (heap_alloc_new _ _)) (by simp [Value.oneCell']) (by decide) (by unfold maxLen; omega) (by omega) (by rw [hsz]; omega) (wr.heap.size + 1) (by rw [hsz]) ?_; intro g9 cap9 w9 hown9 gr9 hat9 hlt9; have RN := Seg.hid (row_put hown9); have B9 : Hid (Below w.heap.size w w9) := (chain BW.out (below1 wr _)).grown gr9 (by rw [hsz]; omega) (fun y hy => by have := (World.ownsRow.lt RW.out y hy).1; omega); have q9 : Hid (w9.cell? ⟨w.heap.size, 3, none⟩ = some (.string q.on)) := (by show _ = _; rw [World.cell?_of_block (w := wr) (a := ⟨w.heap.size, 3, none⟩) ((gr9.block w.heap.size (by rw [hsz]; omega) (fun e => by have := (World.ownsRow.lt RW.out _ e.symm).1; omega)).trans ((below1 wr _).block w.heap.size (by omega)))]; exact q3); have z9 : Hid (W3.heap.size ≤ w9.heap.size) := (by have := gr9.size; rw [hsz] at this; show _ ≤ _; omega); clear hown9 gr9 hat9 hlt9))
        go_roundw
        case rel => exact ⟨k + 1, by go_num, by omega, by rw [NY.out]; exact RN.out, B9.out, q9.out, z9.out⟩
        case measure => simp [intOf]; omega
    · have hkl : k = o.cols.length := by omega
      have RL : Hid (Row wr W3.heap.size v (jnL q.on s.cols o.cols)) := by
        have := RW.out
        rw [hkl, List.take_length] at this
        exact this
      have hx1 : ¬ (k : Int) < (o.cols.length : Int) := by omega
      clear hkl RW
      have nlj : (jnL q.on s.cols o.cols).length ≤ 24 := by have := jn_len q.on s.cols o.cols o.cols.length; rw [List.take_length] at this; have := LA.out; have := LB.out; omega
      go_wp2_with (go_at_call 42; refine (QsI.cols_any _ _ wr _ (Row.lat RL.out (by omega)) (fun y hy => hy.2) SZ.out).mono ?_; rintro e w6 ⟨rfl, b6⟩; have B6 := Seg.hid b6; clear b6)
      go_ret2
      exact ⟨_, by rw [R1.out]; rfl, by rw [R2.out]; exact row_weak (Row.keep RL.out B6.out) (by omega), chain BW.out B6.out⟩
end Go.Proofs.Ytboooabjeidmfaa.YuI
