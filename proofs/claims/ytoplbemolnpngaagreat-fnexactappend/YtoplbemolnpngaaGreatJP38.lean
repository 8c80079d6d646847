/- The model's list of all Batches of a Log; l2Text and l2Four of the model. (Written by gen_wrs.py.). -/
import Derived.Deep.RegionHeld3
import Derived.Test.YtoplbemolnpngaaGreatJP11
import Derived.Test.YtoplbemolnpngaaGreatJP27
import Derived.Test.YtoplbemolnpngaaGreatJP16
import Derived.Test.YtoplbemolnpngaaGreatJP17
namespace Go.Proofs.YtoplbemolnpngaaGreat.Ft
set_option maxRecDepth 8000
open Go.RowKit
open Recs
open Bats SegW Segs LogW BfP
set_option linter.unusedVariables false
theorem infoBa : (Tryz.prog.info? 38).map (fun i => (i.zero, i.size, i.bytes)) = some (some (.agg #[.int .i64 0, .int .i64 0, .int .i64 0, .int .i64 0, .int .i64 0, .int .i64 0, .slice none 0 0]), 7, 72) := by kernel_rfl
theorem row_of_own {w : World} {base ty s n : Nat} {v : Value} {f : Nat → Nat → Value} (hs : 0 < s) (h : w.ownsRow base ty s v n (flat s n f)) (hn : n ≤ 9223372036854775807) : Row w base w.heap.size s v n f := by
  rcases h.2 with ⟨h1, h2⟩ | ⟨g, cap, cur, h1, h2, h3, h4, h5, h6, h7⟩
  · exact ⟨hn, none, 0, by rw [h1, h2], .inl h2⟩
  · refine ⟨hn, _, cap, h1, .inr ⟨g, 0, rfl, (Array.getElem?_eq_some_iff.1 h3).1, h4, fun i hi j hj => ?_, h2⟩⟩
    have hlt : i * s + j < n * s := by
      have : (i + 1) * s ≤ n * s := Nat.mul_le_mul_right s hi
      rw [Nat.succ_mul] at this
      omega
    have hc := World.ownsRow.cells h (g := g) (by rw [h1]; rfl) (i * s + j) (f i j) (by
      have := flat_cell s n f i j hi hj
      rw [List.getD_eq_getElem?_getD, List.getElem?_eq_getElem (by rw [flat_len]; exact hlt)] at this
      rw [List.getElem?_eq_getElem (by rw [flat_len]; exact hlt)]
      exact congrArg some this)
    have hadd : (⟨g, 0, none⟩ : Addr).add (i * s + j) = ⟨g, 0 + i * s + j, none⟩ := by unfold Addr.add; split <;> simp_all
    rw [hadd] at hc
    exact hc
theorem flat_app (s n m : Nat) (f g : Nat → Nat → Value) : flat s n f ++ flat s m g = flat s (n + m) (fun i j => if i < n then f i j else g (i - n) j) := by
  by_cases hs : s = 0
  · subst hs; simp [flat]
  unfold flat
  refine List.ext_getElem (by simp [Nat.add_mul]) fun i h1 h2 => ?_
  simp only [List.getElem_map, List.getElem_range]
  have hs' : 0 < s := by omega
  by_cases hi : i < n * s
  · rw [List.getElem_append_left (by simpa using hi)]
    have : i / s < n := Nat.div_lt_of_lt_mul (by rw [Nat.mul_comm]; exact hi)
    simp [this]
  · rw [List.getElem_append_right (by simpa using hi)]
    have hge : n ≤ i / s := (Nat.le_div_iff_mul_le hs').2 (by omega)
    simp only [List.length_map, List.length_range, List.getElem_map, List.getElem_range]
    rw [if_neg (by omega)]
    have e1 : (i - n * s) / s = i / s - n := by rw [Nat.mul_comm]; exact Nat.sub_mul_div i s n
    have e2 : (i - n * s) % s = i % s := by rw [Nat.mul_comm]; exact Nat.sub_mul_mod (by rw [Nat.mul_comm]; omega)
    rw [e1, e2]
theorem flat_eq {s n : Nat} {f g : Nat → Nat → Value} (hs : 0 < s) (h : ∀ i, i < n → ∀ j, j < s → f i j = g i j) : flat s n f = flat s n g := by
  unfold flat
  refine List.map_congr_left fun q hq => ?_
  rw [List.mem_range] at hq
  exact h _ (Nat.div_lt_of_lt_mul (by rw [Nat.mul_comm]; exact hq)) _ (Nat.mod_lt _ hs)
theorem getD_left {T : Type} [Inhabited T] {a b : List T} {i : Nat} (h : i < a.length) : (a ++ b).getD i default = a.getD i default := by
  rw [List.getD_eq_getElem?_getD, List.getElem?_append_left h, ← List.getD_eq_getElem?_getD]
theorem getD_right {T : Type} [Inhabited T] {a b : List T} {i : Nat} (h : a.length ≤ i) : (a ++ b).getD i default = b.getD (i - a.length) default := by
  rw [List.getD_eq_getElem?_getD, List.getElem?_append_right h, ← List.getD_eq_getElem?_getD]
theorem bats_flat_app (a b : List Bat) (H K : Nat → Value) : flat 7 a.length (batsCells a H) ++ flat 7 b.length (batsCells b K) = flat 7 (a ++ b).length (batsCells (a ++ b) (fun i => if i < a.length then H i else K (i - a.length))) := by
  rw [flat_app, List.length_append]
  refine flat_eq (by omega) fun i hi j hj => ?_
  by_cases h : i < a.length
  · simp only [if_pos h, batsCells, getD_left h]
  · simp only [if_neg h, batsCells, getD_right (Nat.le_of_not_lt h)]
theorem bats_one' {w : World} {lo b : Nat} (bs : List Bat) (H : Nat → Value) (hh : ∀ i, i < bs.length → RecsAt w lo b (H i) (bs.getD i default).recs) : ∀ i, i < bs.length → ∀ j, j < 7 → (batsCells bs H i j).oneCell' = true := fun i hi j hj => by
  match j, hj with
  | 0, _ => rfl
  | 1, _ => rfl
  | 2, _ => rfl
  | 3, _ => rfl
  | 4, _ => rfl
  | 5, _ => rfl
  | 6, _ =>
    obtain ⟨_, ⟨_, A, c, h, _⟩, _⟩ := hh i hi
    show (H i).oneCell' = true
    rw [h]; rfl
theorem flat_one' {s n : Nat} {f : Nat → Nat → Value} (h : ∀ i, i < n → ∀ j, j < s → (f i j).oneCell' = true) (hs : 0 < s) : ∀ u ∈ flat s n f, u.oneCell' = true := fun u hu => by
  unfold flat at hu
  rw [List.mem_map] at hu
  obtain ⟨q, hq, rfl⟩ := hu
  rw [List.mem_range] at hq
  exact h _ (Nat.div_lt_of_lt_mul (by rw [Nat.mul_comm]; exact hq)) _ (Nat.mod_lt _ hs)
theorem ownsRow_form {w : World} {base ty s n : Nat} {v : Value} {xs : List Value} (h : w.ownsRow base ty s v n xs) : ∃ A c, v = .slice A n c := by
  rcases h.2 with ⟨h1, h2⟩ | ⟨g, cap, cur, h1, _⟩
  · exact ⟨none, 0, by rw [h1, h2]⟩
  · exact ⟨_, _, h1⟩
theorem owns_keep {w w' : World} {base n ty nf : Nat} {v : Value} {xs : List Value} (h : w.ownsRow base ty nf v n xs) (hk : ∀ g, base ≤ g → g < w.heap.size → w'.heap[g]? = w.heap[g]?) : w'.ownsRow base ty nf v n xs := by
  refine ⟨h.1, ?_⟩
  rcases h.2 with hn | ⟨g', cap, cur, h1, hbs, hgg, rest⟩
  · exact .inl hn
  · exact .inr ⟨g', cap, cur, h1, hbs, by rw [hk g' hbs (Array.getElem?_eq_some_iff.1 hgg).1]; exact hgg, rest⟩
/-- How far the list is made. -/
structure AL (w wr : World) (lo b : Nat) (l : Lg) (v0 v : Value) (us : List Bat) (HH : Nat → Value) : Prop where
  own : wr.ownsRow (w.heap.size + 1) 38 7 v us.length (flat 7 us.length (batsCells us HH))
  recs : ∀ i, i < us.length → RecsAt w lo b (HH i) (us.getD i default).recs
  bel : Below w.heap.size w wr
  par : wr.heap[w.heap.size]? = some (.cells (logArr l v0) 32 (0, 0))
  size : w.heap.size + 1 ≤ wr.heap.size
theorem AL.push {w wr w9 : World} {lo b : Nat} {l : Lg} {v0 : Value} {A1 A9 : Option Addr} {c1 c9 : Nat} {us bs : List Bat} {K H2 : Nat → Value} (h : AL w wr lo b l v0 (.slice A1 us.length c1) us K) (hh : ∀ i, i < bs.length → RecsAt w lo b (H2 i) (bs.getD i default).recs)
    (hown : w9.ownsRow (w.heap.size + 1) 38 7 (.slice A9 (us.length + bs.length) c9) (us.length + bs.length) (flat 7 (us ++ bs).length (batsCells (us ++ bs) (fun i => if i < us.length then K i else H2 (i - us.length))))) (gr : wr.grownBy w9 (Value.slice A1 us.length c1).ownBlock) :
    AL w w9 lo b l v0 (.slice A9 (us ++ bs).length c9) (us ++ bs) (fun i => if i < us.length then K i else H2 (i - us.length)) := by
  have hz := h.size
  refine ⟨by rw [List.length_append] at hown ⊢; exact hown, fun i hi => ?_, h.bel.grown gr (by omega) (fun k hk => by have := World.ownsRow.lt h.own k hk; omega), (gr.block w.heap.size (by omega) (fun e => by have := World.ownsRow.lt h.own _ e.symm; omega)).trans h.par, Nat.le_trans hz gr.size⟩
  by_cases hlt : i < us.length
  · rw [if_pos hlt, getD_left hlt]
    exact h.recs i hlt
  · rw [if_neg hlt, getD_right (Nat.le_of_not_lt hlt)]
    exact hh _ (by rw [List.length_append] at hi; omega)
set_option maxHeartbeats 1600000 in
theorem l3All_core (l : Lg) (A : Option Addr) (c : Nat) (w : World) (lo b : Nat) (hb : b ≤ w.heap.size) (hl : l.segs.length ≤ 1048576) (hT : (flatB l.segs).length ≤ 1048576) (hv : SegsAt w lo b (.slice A l.segs.length c) l.segs) :
    Calls Tryz.prog 22 #[logVal l (.slice A l.segs.length c)] w fun e w' => ∃ v, e = .returned v ∧ (∃ H, Row w' (w.heap.size + 1) w'.heap.size 7 v (flatB l.segs).length (batsCells (flatB l.segs) H) ∧ ∀ i, i < (flatB l.segs).length → RecsAt w' lo b (H i) ((flatB l.segs).getD i default).recs) ∧ Below w.heap.size w w' := by
  obtain ⟨i0, hi, hz0, hz1, hz2⟩ := info_parts infoBa
  obtain ⟨H, ⟨_, A', c', hsl, hrow⟩, hh⟩ := hv
  simp only [Value.slice.injEq] at hsl
  obtain ⟨rfl, _, rfl⟩ := hsl
  have HROW := Seg.hid hrow; have HH := Seg.hid hh
  clear hrow hh
  unfold logVal
  go_enter Tryz.func22, Tryz.ntmps22
  go_wp2_with fail
  have C0 : Hid (AL w ((w.alloc (.cells (logArr l (.slice A l.segs.length c)) 32 (0, 0))).alloc (.cells #[] 38 (0, 0))) lo b l (.slice A l.segs.length c) (.slice (some ⟨w.heap.size + 1, 0, none⟩) 0 0) [] (fun _ => default)) := by
    refine ⟨?_, fun i hi => absurd hi (by simp), below2 w _ _, (heap_alloc_old _ _ (by rw [hsz]; omega)).trans (heap_alloc_new _ _), by rw [hsz, hsz]; omega⟩
    have := World.ownsRow_lit (base := w.heap.size + 1) (e := 38) (size := 7) (w.alloc (.cells (logArr l (.slice A l.segs.length c)) 32 (0, 0))) #[] 0 (by rw [hsz]; exact Nat.le_refl _) (Nat.zero_le _) rfl
    rw [hsz] at this
    simpa [flat] using this
  go_loopw [3, 4] (fun v i wr => ∃ (j : Nat) (us : List Bat) (A1 : Option Addr) (c1 : Nat) (K : Nat → Value), j ≤ l.segs.length ∧ i = .int .i64 j ∧ v = .slice A1 us.length c1 ∧ Hid (us = flatB (l.segs.take j) ∧ AL w wr lo b l (.slice A l.segs.length c) (.slice A1 us.length c1) us K)) (fun _ i _ => l.segs.length - (intOf i).toNat)
  case atStart => exact ⟨0, [], _, _, _, Nat.zero_le _, rfl, rfl, rfl, C0.out⟩
  case round =>
    clear C0
    obtain ⟨j, us, A1, c1, K, hj, rfl, rfl, HW⟩ := hrel
    have p3 : wr.cell? ⟨w.heap.size, 3, none⟩ = some (.slice A l.segs.length c) := cell_of_row wr w.heap.size 3 _ _ (0, 0) HW.out.2.par
    by_cases hlt : j < l.segs.length
    · have h0 : (0 : Int) ≤ (j : Int) := by omega
      have h1 : (j : Int) < (l.segs.length : Int) := by omega
      obtain ⟨g, o, rfl, hg, hc, hcell, _⟩ := HROW.out.resolve_left (by omega)
      have hgw : g < w.heap.size := by omega
      obtain ⟨e0, e1⟩ := Segs.six (fun i hi q hq => by rw [HW.out.2.bel.cell (p := ⟨g, o + i * 2 + q, none⟩) hgw]; exact hcell i hi q hq) j hlt
      have WC := Seg.hid HW.out.2
      have hz := WC.out.size
      have UN : Hid (us ++ (l.segs.getD j default).bats = flatB (l.segs.take (j + 1))) := by show _ = _; rw [HW.out.1]; exact (flatB_take hlt).symm
      have hul : us.length + (l.segs.getD j default).bats.length ≤ 1048576 := by
        have e : (us ++ (l.segs.getD j default).bats).length = (flatB (l.segs.take (j + 1))).length := by rw [UN.out]
        have e2 : (flatB l.segs).length = (flatB (l.segs.take (j + 1))).length + (flatB (l.segs.drop (j + 1))).length := by rw [← List.length_append, ← flatB_app, List.take_append_drop]
        rw [List.length_append] at e
        omega
      obtain ⟨H2, hr2, hh2⟩ := HH.out j hlt
      obtain ⟨_, Ah, ch, hHj, _⟩ := id hr2
      have R2 := Seg.hid hr2; have HH2 := Seg.hid hh2
      rw [hHj] at e1 R2
      clear hcell HW hr2 hh2 hHj
      generalize l.segs.getD j default = tj at *
      go_wp2_with (at_builtin; (refine wpList_append_all _ rfl (.tmp 13) (.tmp 19) 52 rfl (w.heap.size + 1) 38 i0 _ 7 72 Tryz.underlying52 hi hz0 hz1 hz2 rfl (by decide) (.slice A1 us.length c1) us.length _ rfl WC.out.own Ah tj.bats.length ch (flat 7 tj.bats.length (batsCells tj.bats H2)) rfl (flat_len _ _ _) (flat_news (by decide) (Row.below R2.out (WC.out.bel.mono hb))) (flat_one' (bats_one' _ _ HH2.out) (by omega)) (by unfold maxLen; omega) (by omega) (by omega) ?_; intro v9 w9 hown9 gr9 hat9; obtain ⟨A9, c9, rfl⟩ := ownsRow_form hown9; rw [bats_flat_app] at hown9; have D9 := Seg.hid (AL.push (bs := tj.bats) WC.out HH2.out hown9 gr9); clear hown9 gr9 hat9))
      go_roundw
      case rel => exact ⟨j + 1, us ++ tj.bats, A9, c9, _, by omega, by go_num, by rw [List.length_append], UN.out, D9.out⟩
      case measure => simp [intOf]; omega
    · have UE : Hid (us = flatB l.segs) := by show _ = _; rw [HW.out.1, List.take_of_length_le (by omega)]
      have BA : Hid (∃ H, Row wr (w.heap.size + 1) wr.heap.size 7 (.slice A1 us.length c1) us.length (batsCells us H) ∧ ∀ i, i < us.length → RecsAt wr lo b (H i) (us.getD i default).recs) := by
        have hlen : us.length ≤ 9223372036854775807 := by rw [UE.out]; omega
        exact ⟨K, row_of_own (by omega) HW.out.2.own hlen, fun i hi => (HW.out.2.recs i hi).below (HW.out.2.bel.mono hb)⟩
      have BL := Seg.hid HW.out.2.bel
      have : j = l.segs.length := by omega
      clear HW
      subst this
      go_wp2_with fail
      go_ret
      exact ⟨_, rfl, by rw [← UE.out]; exact BA.out, BL.out⟩
theorem l3All_own (v : Value) (l : Lg) (w : World) (lo b : Nat) (hv : LogAt w lo b v l) (hb : b ≤ w.heap.size) (hl : l.segs.length ≤ 1048576) (hT : (flatB l.segs).length ≤ 1048576) :
    Calls Tryz.prog 22 #[v] w fun e w' => ∃ v, e = .returned v ∧ (∃ H, Row w' (w.heap.size + 1) w'.heap.size 7 v (flatB l.segs).length (batsCells (flatB l.segs) H) ∧ ∀ i, i < (flatB l.segs).length → RecsAt w' lo b (H i) ((flatB l.segs).getD i default).recs) ∧ Below w.heap.size w w' := by
  obtain ⟨sv, rfl, hs⟩ := hv
  obtain ⟨_, ⟨_, A, c, rfl, _⟩, _⟩ := id hs
  exact l3All_core l A c w lo b hb hl hT hs
theorem l3All_any (v : Value) (l : Lg) (w : World) (lo b : Nat) (hv : LogAt w lo b v l) (hb : b ≤ w.heap.size) (hl : l.segs.length ≤ 1048576) (hT : (flatB l.segs).length ≤ 1048576) :
    Calls Tryz.prog 22 #[v] w fun e w' => ∃ v, e = .returned v ∧ BatsAt w' 0 w'.heap.size v (flatB l.segs) ∧ Below w.heap.size w w' :=
  (l3All_own v l w lo b hv hb hl hT).mono fun e w' ⟨v, e1, ⟨H, h1, h2⟩, h3⟩ => ⟨v, e1, ⟨H, h1.mono (Nat.zero_le _) (Nat.le_refl _), fun i hi => (h2 i hi).mono (Nat.zero_le _) (by have := h3.size; omega)⟩, h3⟩
end Go.Proofs.YtoplbemolnpngaaGreat.Ft
namespace Go.Proofs.YtoplbemolnpngaaGreat.WrS
set_option maxRecDepth 8000
open Go.RowKit
open Seg (B)
open SqP (Out app grow)
open Nums (put)
open PuI (Ext below_grown out_below out_lt out_cell)
open PuT (kept)
open AppS (appS run_appS)
open WrB (Mid AtB six_of all_at)
open WrP
open Recs
set_option linter.unusedVariables false

theorem step_appS {w : World} {ops : Array Oper} {o : Oper} {a : Act} {K : Act → World → Prop} {Q : Exit → Act → World → Prop} {E : Prop} (hgd : o.guard = none) (s x : Operand) (ho : o.op = .call { callee := .builtin .append, args := #[s, x], argTypes := #[78, 9] })
    (base g cap : Nat) (l : List Int) (t : ByteArray) (hs : a.eval s = .slice (some ⟨g, 0, none⟩) l.length cap) (hown : Out w base g cap l) (hx : a.eval x = .string t) (hb : l.length + t.size ≤ 10000000) (hbase : base ≤ w.heap.size)
    (h : ∀ g' cap' w', Out w' base g' cap' (l ++ txt t) → w.grownBy w' (some g) → (g' = g ∨ g' = w.heap.size) → K (a.put o.dst (.slice (some ⟨g', 0, none⟩) (l.length + t.size) cap')) w') : if Region.wanted o (yielded ops a.tmps) = true then Oper.wp Tryz.prog o a w K Q else E := by
  have hw : Region.wanted o (yielded ops a.tmps) = true := by simp [Region.wanted, hgd]
  rw [if_pos hw]
  obtain ⟨g', cap', w', hr, h2, h3, h4⟩ := run_appS w o.type base g cap l hown t hb hbase
  unfold Oper.wp execOp
  simp only [ho, resolve, invoke, builtin, Sem.run_bind, Sem.run_pure, Result.andThen_ok, List.map_toArray, List.map_cons, List.map_nil, hs, hx, hr]
  exact h g' cap' w' h2 h3 h4

theorem Mid.ext {wr w w' : World} {base g1 g2 cap2 g3 cap3 n : Nat} {X : Obj} {cur l : List Int} (h : Mid wr w base g1 X cur g2 cap2) (E : Ext w w' base g2 l (.returned (.slice (some ⟨g3, 0, none⟩) n cap3))) : Mid wr w' base g1 X l g3 cap3 := by
  obtain ⟨g4, cap4, e4, M⟩ := h.step E
  simp only [Ending.returned.injEq, Value.slice.injEq, Option.some.injEq, Addr.mk.injEq, and_true] at e4
  obtain ⟨rfl, _, rfl⟩ := e4
  exact M
/-- A number put behind what is out. -/
theorem num_ext {w w2 w3 : World} {base g g3 cap3 : Nat} {cur : List Int} {x : Int} (hb : Below w.heap.size w w2) (o3 : Out w3 base g3 cap3 (cur ++ put x)) (gr : w2.grownBy w3 (some g)) (h3 : g3 = g ∨ g3 = w2.heap.size) : Ext w w3 base g (cur ++ put x) (.returned (.slice (some ⟨g3, 0, none⟩) (cur.length + (put x).length) cap3)) :=
  PuT.Ext.more (below_grown hb (some g)) (.inl rfl) o3 gr h3 (by rw [List.length_append])

set_option maxHeartbeats 800000 in
theorem l2Text_any (g cap base : Nat) (out : List Int) (s : ByteArray) (w : World) (ho1 : out.length ≤ 900000) (hs : s.size ≤ 1000) (ho : Out w base g cap out) (hbase : base ≤ w.heap.size) :
    Calls Tryz.prog 81 #[.slice (some ⟨g, 0, none⟩) out.length cap, .string s] w fun e w' => Ext w w' base g (out ++ txtIf true s) e := by
  have HO := Seg.hid ho
  clear ho
  go_enter Tryz.func81, Tryz.ntmps81
  go_wp2_with fail
  refine (Put.spec_any (s.size : Int) w (by omega) (by omega)).mono ?_
  rintro e w2 ⟨g2, cap2, rfl, o2, b2⟩
  obtain ⟨x, hx⟩ : ∃ x : Int, (s.size : Int) = x := ⟨_, rfl⟩
  have hpl := put_le x (by omega)
  have hpl2 : (put (s.size : Int)).length = (put x).length := by rw [hx]
  rw [hpl2]
  rw [hx] at o2
  have HX := Seg.hid hx
  have O2 := Seg.hid o2; have B2 := Seg.hid b2
  have z2 := b2.size
  clear o2 b2 hx hpl2
  go_wp2_with (first | (at_builtin; refine app rfl (.tmp 5) (.tmp 8) rfl base g cap out (put x) ?zzs ?zzo ⟨g2, 0, none⟩ cap2 ?zzx ?zzn ?zzm ?zzb ?zzba ?_; (case zzs => rfl); (case zzo => exact out_below HO.out B2.out); (case zzx => rfl); (case zzn => exact fun j hj => out_cell (l := put x) O2.out j hj); (case zzm => exact Nums.put_pos x); (case zzb => omega); (case zzba => omega); intro g3 cap3 w3 o3 gr3 at3; have O3 := Seg.hid o3; have E3 := Seg.hid (num_ext B2.out o3 gr3 at3); have z3 := gr3.size; clear o3 gr3 at3) | (at_builtin; refine appS rfl (.tmp 9) (.tmp 10) rfl base g3 cap3 (out ++ put x) s ?zzs ?zzo ?zzx ?zzb ?zzba ?_; (case zzs => rw [List.length_append]; rfl); (case zzo => exact O3.out); (case zzx => rfl); (case zzb => rw [List.length_append]; omega); (case zzba => omega); intro g4 cap4 w4 o4 gr4 at4; have E4 : Hid (Ext w w4 base g (out ++ put x ++ txt s) (.returned (.slice (some ⟨g4, 0, none⟩) (out.length + (put x).length + s.size) cap4))) := (by obtain ⟨⟨ga, ca, ea, oa, ha⟩, gra⟩ := E3.out; simp only [Ending.returned.injEq, Value.slice.injEq, Option.some.injEq, Addr.mk.injEq, and_true] at ea; obtain ⟨rfl, _, rfl⟩ := ea; exact PuT.Ext.more gra ha o4 gr4 at4 (by simp only [List.length_append, txt_len]) : Ext w w4 base g (out ++ put x ++ txt s) (.returned (.slice (some ⟨g4, 0, none⟩) (out.length + (put x).length + s.size) cap4))); clear o4 gr4 at4))
  go_ret
  have e1 : out ++ txtIf true s = out ++ put x ++ txt s := by rw [txtIf, if_pos rfl, HX.out, List.append_assoc]
  rw [e1]
  exact E4.out

set_option maxHeartbeats 800000 in
theorem l2Four_any (x : Int) (w : World) (hx : 0 ≤ x ∧ x < 4294967296) :
    Calls Tryz.prog 63 #[.int .i64 x] w fun e w' => ∃ g', e = .returned (.slice (some ⟨g', 0, none⟩) 4 4) ∧ Out w' w.heap.size g' 4 (four x) ∧ Below w.heap.size w w' := by
  obtain ⟨x0, x1⟩ := hx
  go_enter Tryz.func63, Tryz.ntmps63
  go_wp2
  go_ret
  refine ⟨w.heap.size, rfl, ?_, below1 w _⟩
  have e1 : x / 16777216 % 256 = x / 16777216 := by omega
  have := World.ownsRow_lit (e := 5) (size := 1) (base := w.heap.size) w #[.int .u8 (x / 16777216), .int .u8 (x / 65536 % 256), .int .u8 (x / 256 % 256), .int .u8 (x % 256)] 4 (Nat.le_refl _) (by unfold maxLen; omega) rfl
  unfold Out four
  rw [e1]
  exact this

end Go.Proofs.YtoplbemolnpngaaGreat.WrS
