/- The map of open transactions: what it says of a producer; one batch. -/
import Derived.Maps.OwnSet
import Derived.Maps.RangeWalk
import Derived.Maps.Views
import Derived.Deep.Cut
import Derived.Test.YtdnfnjlnfmafkaaJVS03
import Derived.Test.YtdnfnjlnfmafkaaJVS01
namespace Go.Proofs.Ytdnfnjlnfmafkaa.SdM
set_option maxRecDepth 8000
open Go.RowKit Go.Maps
open Ls SdQ
open Recs (hsz below1 below2 chain Bat batVal)
set_option linter.unusedVariables false
theorem law : Keyed Try.prog 3 := int_keyed Try.underlying3
theorem zeroI (w : World) : (zeroValue 3).run Try.prog w = .ok (.int .i64 0) w := by kernel_rfl
def I64' (p : Int) : Prop := -9223372036854775808 ≤ p ∧ p ≤ 9223372036854775807
/-- What the map says of each producer. -/
def Mp (D : DataW Unit) (st : List Gon) : Prop := ∀ p : Int, Maps.has D (.int .i64 p) = (fnd p st).isSome ∧ ∀ f, fnd p st = some f → ∀ z, D.atKey (.int .i64 p) z = .lit (.int .i64 f)
theorem key_ne {p q : Int} (h : q ≠ p) : (Lit.int .i64 q) ≠ (Lit.int .i64 p) := fun e => h (by cases e; rfl)
theorem mp_nil : Mp (.map []) [] := fun p => ⟨rfl, fun f h => by cases h⟩
theorem mp_put {D : DataW Unit} {st : List Gon} (h : Mp D st) (hD : IsMap D) (p f : Int) (hp : fnd p st = none) : Mp (D.put (.int .i64 p) (.lit (.int .i64 f))) (st ++ [⟨p, f, 0⟩]) := fun q => by
  rw [fnd_app]
  by_cases hq : q = p
  · subst hq
    rw [hp]
    refine ⟨?_, fun f' hf z => ?_⟩
    · rw [has_put_same hD (show WideAt.IsKeyLit (Lit.int .i64 q) from trivial)]; simp
    · simp at hf
      subst hf
      exact atKey_put_same hD (show WideAt.IsKeyLit (Lit.int .i64 q) from trivial) _ _
  · have e : (if p = q then some f else none) = (none : Option Int) := if_neg (fun e => hq e.symm)
    show _ ∧ ∀ f', (fnd q st).or (if p = q then some f else none) = some f' → _
    rw [e, Option.or_none, has_put_other (key_ne hq)]
    exact ⟨(h q).1, fun f' hf z => by rw [atKey_put_other (key_ne hq)]; exact (h q).2 f' hf z⟩
theorem mp_del {D : DataW Unit} {st : List Gon} (h : Mp D st) (p : Int) : Mp (D.del (.int .i64 p)) (del p st) := fun q => by
  rw [fnd_del]
  by_cases hq : q = p
  · subst hq
    simp [has_del_same]
  · simp only [hq, if_false]
    rw [has_del_other (key_ne hq)]
    exact ⟨(h q).1, fun f' hf z => by rw [atKey_del_other (key_ne hq)]; exact (h q).2 f' hf z⟩
/-- The map in block bm: at most n entries. -/
def MapAt (w : World) (bm n : Nat) (st : List Gon) : Prop := ∃ D : DataW Unit, w.ownsMap Try.prog 3 (plainElem Try.prog 3) bm n D ∧ Mp D st
/-- What a pass tells of a batch, and what is open behind it. -/
def psd (st : List Gon) (b : Bat) : Gon × Bool := if mk b = true then (⟨b.producer, (fnd b.producer st).getD 0, b.base⟩, (fnd b.producer st).isSome) else (⟨0, 0, 0⟩, false)
def opn2 (st : List Gon) (b : Bat) : List Gon := if mk b = true then del b.producer st else if (op b && (fnd b.producer st).isNone) = true then st ++ [⟨b.producer, b.base, 0⟩] else st
theorem flags_ways {f : Int} (h0 : 0 ≤ f) (h7 : f ≤ 7) : f = 0 ∨ f = 1 ∨ f = 2 ∨ f = 3 ∨ f = 4 ∨ f = 5 ∨ f = 6 ∨ f = 7 := by omega
def gz : Array Value := #[.int .i64 0, .int .i64 0, .int .i64 0]
theorem gz_one (a b c : Int) : (#[.int .i64 a, .int .i64 b, .int .i64 c] : Array Value).all (·.oneCell') = true := by simp [Value.oneCell']
/-- What stands in a pass: the batch's copy, the answer's block, the map. -/
structure Ps (w wx : World) (b : Bat) (A : Option Addr) (c bm : Nat) : Prop where
  rb : wx.heap[w.heap.size]? = some (.cells #[.int .i64 b.base, .int .i64 b.epoch, .int .i64 b.producer, .int .i64 b.turn, .int .i64 b.seq, .int .i64 b.flags, .slice A b.recs.length c] 48 (0, 0))
  rg : wx.heap[w.heap.size + 1]? = some (.cells gz 50 (0, 0))
  grow : w.grownBy wx (some bm)
theorem results_row_tmp {P : Program} {fn : Func} {p u : Tmp} {ty : TypeId} (h : fn.results = #[.cell p ty, .tmp u]) (tmps : Array Value) (w : World) (g : Nat) (t : TypeId) (cs : Array Value) (fr : Nat × Nat) (d : TypeDesc)
    (x : Value) (hp : tmps.getD p undef = .pointer (some ⟨g, 0, none⟩)) (hx : tmps.getD u undef = x) (hg : w.heap[g]? = some (.cells cs t fr))
    (hu : P.underlying ty = some d) (hd : (match d with | .struct _ | .array _ _ => true | _ => false) = true) (hi : (P.info? ty).map (·.size) = some cs.size) :
    (results fn tmps).run P w = .ok (.tuple #[.agg cs, x]) w := by
  subst hx
  have hp' : tmps[p]?.getD undef = .pointer (some ⟨g, 0, none⟩) := by simpa using hp
  rw [results_cell_tmp h]
  simp [hp', asAddr, run_loadVar_row w g t ty cs fr d hg hu hd hi, Result.andThen]
theorem own_cells {w : World} {bm n g o : Nat} {D : DataW Unit} (h : w.ownsMap Try.prog 3 (plainElem Try.prog 3) bm n D) (hg : bm ≠ g) : ∀ vs : List Value, (w.setCells g o vs).ownsMap Try.prog 3 (plainElem Try.prog 3) bm n D := fun vs => by
  obtain ⟨es, clock, hb, r⟩ := h
  exact ⟨es, clock, (Cells.heap_setCells_other _ _ hg).trans hb, r⟩
theorem grow_cells {w w' : World} {bm : Nat} (h : w.grownBy w' (some bm)) (vs : List Value) : w.grownBy (w'.setCells (w.heap.size + 1) 0 vs) (some bm) := by
  have b := Cells.below_setCells (B := w.heap.size + 1) (g := w.heap.size + 1) (Nat.le_refl _) vs 0 w' w' (Below.refl _ _)
  exact ⟨b.os.trans h.os, b.tape.trans h.tape, b.output.trans h.output, Nat.le_trans h.size b.size, fun k hk hn => (Cells.heap_setCells_other vs w' (by omega)).trans (h.block k hk hn)⟩
set_option maxHeartbeats 3200000 in
theorem pass_any (b : Bat) (A : Option Addr) (c bm n : Nat) (st : List Gon) (w : World) (h : MapAt w bm n st) (hn : n ≤ 1000) (hf : 0 ≤ b.flags ∧ b.flags ≤ 7) (hp : I64' b.producer) (hb : I64' b.base) :
    Calls Try.prog 42 #[.map (some bm), .agg #[.int .i64 b.base, .int .i64 b.epoch, .int .i64 b.producer, .int .i64 b.turn, .int .i64 b.seq, .int .i64 b.flags, .slice A b.recs.length c]] w fun e w' => e = .returned (.tuple #[.agg #[.int .i64 (psd st b).1.producer, .int .i64 (psd st b).1.first, .int .i64 (psd st b).1.last], .bool (psd st b).2]) ∧ MapAt w' bm (n + 1) (opn2 st b) ∧ w.grownBy w' (some bm) := by
  obtain ⟨D, hown, hm⟩ := h
  have HM := Seg.hid hm
  have hbm : bm < w.heap.size := hown.lt
  have wfp : (Lit.int .i64 b.producer).wf = true := WalkArith.wf_i64 hp
  have wfb : (Lit.int .i64 b.base).wf = true := WalkArith.wf_i64 hb
  have WP := Seg.hid wfp; have WB := Seg.hid wfb
  have P0 : Hid (Ps w ((w.alloc (.cells #[.int .i64 b.base, .int .i64 b.epoch, .int .i64 b.producer, .int .i64 b.turn, .int .i64 b.seq, .int .i64 b.flags, .slice A b.recs.length c] 48 (0, 0))).alloc (.cells gz 50 (0, 0))) b A c bm) := ⟨at2z _ _ _, at2y _ _ _, (World.grownBy_alloc _ _ _).trans (World.grownBy_alloc _ _ _)⟩
  have O0 : Hid (((w.alloc (.cells #[.int .i64 b.base, .int .i64 b.epoch, .int .i64 b.producer, .int .i64 b.turn, .int .i64 b.seq, .int .i64 b.flags, .slice A b.recs.length c] 48 (0, 0))).alloc (.cells gz 50 (0, 0))).ownsMap Try.prog 3 (plainElem Try.prog 3) bm n D) := (hown.alloc _).alloc _
  have s0 : ((w.alloc (.cells #[.int .i64 b.base, .int .i64 b.epoch, .int .i64 b.producer, .int .i64 b.turn, .int .i64 b.seq, .int .i64 b.flags, .slice A b.recs.length c] 48 (0, 0))).alloc (.cells gz 50 (0, 0))).heap.size = w.heap.size + 2 := by rw [hsz, hsz]
  clear hown hm wfp wfb
  go_enter Try.func42, Try.ntmps42
  go_upto_region 1 with fail
  unfold gz at P0 O0 s0
  generalize (w.alloc (.cells #[.int .i64 b.base, .int .i64 b.epoch, .int .i64 b.producer, .int .i64 b.turn, .int .i64 b.seq, .int .i64 b.flags, .slice A b.recs.length c] 48 (0, 0))).alloc (.cells #[.int .i64 0, .int .i64 0, .int .i64 0] 50 (0, 0)) = w2 at *
  obtain ⟨fl, hfl⟩ : ∃ fl, b.flags = fl := ⟨_, rfl⟩
  have p0 : w2.cell? ⟨w.heap.size, 0, none⟩ = some (.int .i64 b.base) := cell_of_row w2 _ 0 _ _ (0, 0) P0.out.rb
  have p2 : w2.cell? ⟨w.heap.size, 2, none⟩ = some (.int .i64 b.producer) := cell_of_row w2 _ 2 _ _ (0, 0) P0.out.rb
  have p5 : w2.cell? ⟨w.heap.size, 5, none⟩ = some (.int .i64 b.flags) := cell_of_row w2 _ 5 _ _ (0, 0) P0.out.rb
  rw [hfl] at p5 hf
  have HF := Seg.hid hfl
  go_upto_region 2 with (at_lookup; refine wpList_lookup_own_ok_int _ rfl _ _ 82 rfl 3 3 .i64 law Try.underlying82 Try.underlying3 (zeroI _) bm n _ rfl O0.out _ _ rfl (keyOf_int_mk Try.underlying3 WP.out) ?_; intro c0 hat hwc)
  have HH : Hid (Maps.has D (.int .i64 b.producer) = (fnd b.producer st).isSome) := (HM.out b.producer).1
  have HC : Hid (c0 = (fnd b.producer st).getD 0) := by
    show _ = _
    cases hq : fnd b.producer st with
    | none =>
      have h1 : Maps.has D (.int .i64 b.producer) = false := by rw [HH.out, hq]; rfl
      rw [atKey_of_not_has h1] at hat
      cases hat; rfl
    | some f =>
      rw [(HM.out b.producer).2 f hq] at hat
      cases hat; rfl
  clear hat hwc hfl
  have hlb : w.heap.size < w2.heap.size := by omega
  have hne : bm ≠ w.heap.size := by omega
  have hne2 : bm ≠ w.heap.size + 1 := by omega
  cases hun : (fnd b.producer st).isSome with
  | false =>
    have hH : Maps.has D (.int .i64 b.producer) = false := HH.out.trans hun
    rw [hH]
    have HU := Seg.hid hun
    clear hun
    rcases flags_ways hf.1 hf.2 with rfl | rfl | rfl | rfl | rfl | rfl | rfl | rfl
    · -- flags 0
      have hmk : Hid (mk b = false) := by show _ = _; simp [mk, HF.out]
      have hno : Hid ((op b && (fnd b.producer st).isNone) = false) := by show _ = _; simp [op, HF.out]
      have TH := Seg.hid (Cells.there_of P0.out.rg)
      go_wp2_with (refine wpList_store_mid rfl 50 _ _ rfl (w.heap.size + 1) 0 #[.int .i64 0, .int .i64 0, .int .i64 0] rfl rfl TH.out infoGon (gz_one _ _ _) ?_)
      have WH := Seg.hid (Cells.whole (vs := #[.int .i64 0, .int .i64 0, .int .i64 0]) P0.out.rg rfl)
      exact bodyPost_ret (v := .tuple #[.agg #[.int .i64 0, .int .i64 0, .int .i64 0], .bool false]) (results_row_tmp rfl _ _ (w.heap.size + 1) _ #[.int .i64 0, .int .i64 0, .int .i64 0] _ _ _ rfl rfl WH.out Try.underlying50 rfl infoGon) rfl ⟨by simp only [psd, hmk.out]; rfl, ⟨_, (own_cells (O0.out.mono (Nat.le_succ n)) hne2 _), by simp only [opn2, hmk.out, hno.out]; exact HM.out⟩, grow_cells P0.out.grow _⟩
    · -- flags 1
      have hmk : Hid (mk b = false) := by show _ = _; simp [mk, HF.out]
      have hno : Hid ((op b && (fnd b.producer st).isNone) = false) := by show _ = _; simp [op, HF.out]
      have TH := Seg.hid (Cells.there_of P0.out.rg)
      go_wp2_with (refine wpList_store_mid rfl 50 _ _ rfl (w.heap.size + 1) 0 #[.int .i64 0, .int .i64 0, .int .i64 0] rfl rfl TH.out infoGon (gz_one _ _ _) ?_)
      have WH := Seg.hid (Cells.whole (vs := #[.int .i64 0, .int .i64 0, .int .i64 0]) P0.out.rg rfl)
      exact bodyPost_ret (v := .tuple #[.agg #[.int .i64 0, .int .i64 0, .int .i64 0], .bool false]) (results_row_tmp rfl _ _ (w.heap.size + 1) _ #[.int .i64 0, .int .i64 0, .int .i64 0] _ _ _ rfl rfl WH.out Try.underlying50 rfl infoGon) rfl ⟨by simp only [psd, hmk.out]; rfl, ⟨_, (own_cells (O0.out.mono (Nat.le_succ n)) hne2 _), by simp only [opn2, hmk.out, hno.out]; exact HM.out⟩, grow_cells P0.out.grow _⟩
    · -- flags 2
      have hmk : Hid (mk b = false) := by show _ = _; simp [mk, HF.out]
      have hop : Hid (op b = true) := by show _ = _; simp [op, HF.out]
      have hfn : Hid (fnd b.producer st = none) := by show _ = _; have := HU.out; cases h : fnd b.producer st with | none => rfl | some f => rw [h] at this; cases this
      go_wp2_with (first | (at_mapUpdate; refine wpList_mapUpdate_own _ rfl _ _ _ 82 rfl 3 3 law Try.underlying82 _ bm n _ rfl O0.out (by unfold maxLen; omega) _ _ _ rfl rfl (keyOf_int_mk Try.underlying3 WP.out) _ [] (plainElem_int Try.underlying3 WB.out) ?_; intro w3 hown3 hg3; have T3 := Seg.hid hg3; have O3 := Seg.hid hown3; have r1 : w3.heap[w.heap.size + 1]? = _ := (hg3.block (w.heap.size + 1) (by omega) (fun e => hne2 (by cases e; rfl))).trans P0.out.rg; have R1 := Seg.hid r1; have TH := Seg.hid (Cells.there_of r1); clear hown3 hg3 r1) | (refine wpList_store_mid rfl 50 _ _ rfl (w.heap.size + 1) 0 #[.int .i64 0, .int .i64 0, .int .i64 0] rfl rfl TH.out infoGon (gz_one _ _ _) ?_))
      have WH := Seg.hid (Cells.whole (vs := #[.int .i64 0, .int .i64 0, .int .i64 0]) R1.out rfl)
      exact bodyPost_ret (v := .tuple #[.agg #[.int .i64 0, .int .i64 0, .int .i64 0], .bool false]) (results_row_tmp rfl _ _ (w.heap.size + 1) _ #[.int .i64 0, .int .i64 0, .int .i64 0] _ _ _ rfl rfl WH.out Try.underlying50 rfl infoGon) rfl ⟨by simp only [psd, hmk.out]; rfl, ⟨_, (own_cells O3.out hne2 _), by simp only [opn2, hmk.out, hop.out, hfn.out]; exact mp_put HM.out O0.out.isMap _ _ hfn.out⟩, grow_cells (P0.out.grow.trans T3.out) _⟩
    · -- flags 3
      have hmk : Hid (mk b = false) := by show _ = _; simp [mk, HF.out]
      have hop : Hid (op b = true) := by show _ = _; simp [op, HF.out]
      have hfn : Hid (fnd b.producer st = none) := by show _ = _; have := HU.out; cases h : fnd b.producer st with | none => rfl | some f => rw [h] at this; cases this
      go_wp2_with (first | (at_mapUpdate; refine wpList_mapUpdate_own _ rfl _ _ _ 82 rfl 3 3 law Try.underlying82 _ bm n _ rfl O0.out (by unfold maxLen; omega) _ _ _ rfl rfl (keyOf_int_mk Try.underlying3 WP.out) _ [] (plainElem_int Try.underlying3 WB.out) ?_; intro w3 hown3 hg3; have T3 := Seg.hid hg3; have O3 := Seg.hid hown3; have r1 : w3.heap[w.heap.size + 1]? = _ := (hg3.block (w.heap.size + 1) (by omega) (fun e => hne2 (by cases e; rfl))).trans P0.out.rg; have R1 := Seg.hid r1; have TH := Seg.hid (Cells.there_of r1); clear hown3 hg3 r1) | (refine wpList_store_mid rfl 50 _ _ rfl (w.heap.size + 1) 0 #[.int .i64 0, .int .i64 0, .int .i64 0] rfl rfl TH.out infoGon (gz_one _ _ _) ?_))
      have WH := Seg.hid (Cells.whole (vs := #[.int .i64 0, .int .i64 0, .int .i64 0]) R1.out rfl)
      exact bodyPost_ret (v := .tuple #[.agg #[.int .i64 0, .int .i64 0, .int .i64 0], .bool false]) (results_row_tmp rfl _ _ (w.heap.size + 1) _ #[.int .i64 0, .int .i64 0, .int .i64 0] _ _ _ rfl rfl WH.out Try.underlying50 rfl infoGon) rfl ⟨by simp only [psd, hmk.out]; rfl, ⟨_, (own_cells O3.out hne2 _), by simp only [opn2, hmk.out, hop.out, hfn.out]; exact mp_put HM.out O0.out.isMap _ _ hfn.out⟩, grow_cells (P0.out.grow.trans T3.out) _⟩
    · -- flags 4
      have hmk : Hid (mk b = true) := by show _ = _; simp [mk, HF.out]
      go_wp2_with (first | (at_delete; refine wpList_delete_own _ rfl _ _ 82 3 rfl 3 law Try.underlying82 _ bm n _ rfl O0.out _ _ rfl (keyOf_int_mk Try.underlying3 WP.out) ?_; intro w3 hown3 hturn3; have T3 := Seg.hid hturn3; have O3 := Seg.hid hown3; have r0 : w3.heap[w.heap.size]? = _ := (hturn3.grown.block w.heap.size (by omega) (fun e => hne (by cases e; rfl))).trans P0.out.rb; have r1 : w3.heap[w.heap.size + 1]? = _ := (hturn3.grown.block (w.heap.size + 1) (by omega) (fun e => hne2 (by cases e; rfl))).trans P0.out.rg; have R1 := Seg.hid r1; have TH := Seg.hid (Cells.there_of r1); have q0 : w3.cell? ⟨w.heap.size, 0, none⟩ = some (.int .i64 b.base) := cell_of_row w3 _ 0 _ _ (0, 0) r0; have q2 : w3.cell? ⟨w.heap.size, 2, none⟩ = some (.int .i64 b.producer) := cell_of_row w3 _ 2 _ _ (0, 0) r0; clear hown3 hturn3 r0 r1) | (refine wpList_store_mid rfl 50 _ _ rfl (w.heap.size + 1) 0 #[.int .i64 b.producer, .int .i64 c0, .int .i64 b.base] rfl rfl TH.out infoGon (gz_one _ _ _) ?_))
      have WH := Seg.hid (Cells.whole (vs := #[.int .i64 b.producer, .int .i64 c0, .int .i64 b.base]) R1.out rfl)
      exact bodyPost_ret (v := .tuple #[.agg #[.int .i64 b.producer, .int .i64 c0, .int .i64 b.base], .bool false]) (results_row_tmp rfl _ _ (w.heap.size + 1) _ #[.int .i64 b.producer, .int .i64 c0, .int .i64 b.base] _ _ _ rfl rfl WH.out Try.underlying50 rfl infoGon) rfl ⟨by simp only [psd, hmk.out, if_true]; rw [← HC.out, HU.out], ⟨_, (own_cells (O3.out.mono (Nat.le_succ n)) hne2 _), by simp only [opn2, hmk.out, if_true]; exact mp_del HM.out _⟩, grow_cells (P0.out.grow.trans T3.out.grown) _⟩
    · -- flags 5
      have hmk : Hid (mk b = true) := by show _ = _; simp [mk, HF.out]
      go_wp2_with (first | (at_delete; refine wpList_delete_own _ rfl _ _ 82 3 rfl 3 law Try.underlying82 _ bm n _ rfl O0.out _ _ rfl (keyOf_int_mk Try.underlying3 WP.out) ?_; intro w3 hown3 hturn3; have T3 := Seg.hid hturn3; have O3 := Seg.hid hown3; have r0 : w3.heap[w.heap.size]? = _ := (hturn3.grown.block w.heap.size (by omega) (fun e => hne (by cases e; rfl))).trans P0.out.rb; have r1 : w3.heap[w.heap.size + 1]? = _ := (hturn3.grown.block (w.heap.size + 1) (by omega) (fun e => hne2 (by cases e; rfl))).trans P0.out.rg; have R1 := Seg.hid r1; have TH := Seg.hid (Cells.there_of r1); have q0 : w3.cell? ⟨w.heap.size, 0, none⟩ = some (.int .i64 b.base) := cell_of_row w3 _ 0 _ _ (0, 0) r0; have q2 : w3.cell? ⟨w.heap.size, 2, none⟩ = some (.int .i64 b.producer) := cell_of_row w3 _ 2 _ _ (0, 0) r0; clear hown3 hturn3 r0 r1) | (refine wpList_store_mid rfl 50 _ _ rfl (w.heap.size + 1) 0 #[.int .i64 b.producer, .int .i64 c0, .int .i64 b.base] rfl rfl TH.out infoGon (gz_one _ _ _) ?_))
      have WH := Seg.hid (Cells.whole (vs := #[.int .i64 b.producer, .int .i64 c0, .int .i64 b.base]) R1.out rfl)
      exact bodyPost_ret (v := .tuple #[.agg #[.int .i64 b.producer, .int .i64 c0, .int .i64 b.base], .bool false]) (results_row_tmp rfl _ _ (w.heap.size + 1) _ #[.int .i64 b.producer, .int .i64 c0, .int .i64 b.base] _ _ _ rfl rfl WH.out Try.underlying50 rfl infoGon) rfl ⟨by simp only [psd, hmk.out, if_true]; rw [← HC.out, HU.out], ⟨_, (own_cells (O3.out.mono (Nat.le_succ n)) hne2 _), by simp only [opn2, hmk.out, if_true]; exact mp_del HM.out _⟩, grow_cells (P0.out.grow.trans T3.out.grown) _⟩
    · -- flags 6
      have hmk : Hid (mk b = true) := by show _ = _; simp [mk, HF.out]
      go_wp2_with (first | (at_delete; refine wpList_delete_own _ rfl _ _ 82 3 rfl 3 law Try.underlying82 _ bm n _ rfl O0.out _ _ rfl (keyOf_int_mk Try.underlying3 WP.out) ?_; intro w3 hown3 hturn3; have T3 := Seg.hid hturn3; have O3 := Seg.hid hown3; have r0 : w3.heap[w.heap.size]? = _ := (hturn3.grown.block w.heap.size (by omega) (fun e => hne (by cases e; rfl))).trans P0.out.rb; have r1 : w3.heap[w.heap.size + 1]? = _ := (hturn3.grown.block (w.heap.size + 1) (by omega) (fun e => hne2 (by cases e; rfl))).trans P0.out.rg; have R1 := Seg.hid r1; have TH := Seg.hid (Cells.there_of r1); have q0 : w3.cell? ⟨w.heap.size, 0, none⟩ = some (.int .i64 b.base) := cell_of_row w3 _ 0 _ _ (0, 0) r0; have q2 : w3.cell? ⟨w.heap.size, 2, none⟩ = some (.int .i64 b.producer) := cell_of_row w3 _ 2 _ _ (0, 0) r0; clear hown3 hturn3 r0 r1) | (refine wpList_store_mid rfl 50 _ _ rfl (w.heap.size + 1) 0 #[.int .i64 b.producer, .int .i64 c0, .int .i64 b.base] rfl rfl TH.out infoGon (gz_one _ _ _) ?_))
      have WH := Seg.hid (Cells.whole (vs := #[.int .i64 b.producer, .int .i64 c0, .int .i64 b.base]) R1.out rfl)
      exact bodyPost_ret (v := .tuple #[.agg #[.int .i64 b.producer, .int .i64 c0, .int .i64 b.base], .bool false]) (results_row_tmp rfl _ _ (w.heap.size + 1) _ #[.int .i64 b.producer, .int .i64 c0, .int .i64 b.base] _ _ _ rfl rfl WH.out Try.underlying50 rfl infoGon) rfl ⟨by simp only [psd, hmk.out, if_true]; rw [← HC.out, HU.out], ⟨_, (own_cells (O3.out.mono (Nat.le_succ n)) hne2 _), by simp only [opn2, hmk.out, if_true]; exact mp_del HM.out _⟩, grow_cells (P0.out.grow.trans T3.out.grown) _⟩
    · -- flags 7
      have hmk : Hid (mk b = true) := by show _ = _; simp [mk, HF.out]
      go_wp2_with (first | (at_delete; refine wpList_delete_own _ rfl _ _ 82 3 rfl 3 law Try.underlying82 _ bm n _ rfl O0.out _ _ rfl (keyOf_int_mk Try.underlying3 WP.out) ?_; intro w3 hown3 hturn3; have T3 := Seg.hid hturn3; have O3 := Seg.hid hown3; have r0 : w3.heap[w.heap.size]? = _ := (hturn3.grown.block w.heap.size (by omega) (fun e => hne (by cases e; rfl))).trans P0.out.rb; have r1 : w3.heap[w.heap.size + 1]? = _ := (hturn3.grown.block (w.heap.size + 1) (by omega) (fun e => hne2 (by cases e; rfl))).trans P0.out.rg; have R1 := Seg.hid r1; have TH := Seg.hid (Cells.there_of r1); have q0 : w3.cell? ⟨w.heap.size, 0, none⟩ = some (.int .i64 b.base) := cell_of_row w3 _ 0 _ _ (0, 0) r0; have q2 : w3.cell? ⟨w.heap.size, 2, none⟩ = some (.int .i64 b.producer) := cell_of_row w3 _ 2 _ _ (0, 0) r0; clear hown3 hturn3 r0 r1) | (refine wpList_store_mid rfl 50 _ _ rfl (w.heap.size + 1) 0 #[.int .i64 b.producer, .int .i64 c0, .int .i64 b.base] rfl rfl TH.out infoGon (gz_one _ _ _) ?_))
      have WH := Seg.hid (Cells.whole (vs := #[.int .i64 b.producer, .int .i64 c0, .int .i64 b.base]) R1.out rfl)
      exact bodyPost_ret (v := .tuple #[.agg #[.int .i64 b.producer, .int .i64 c0, .int .i64 b.base], .bool false]) (results_row_tmp rfl _ _ (w.heap.size + 1) _ #[.int .i64 b.producer, .int .i64 c0, .int .i64 b.base] _ _ _ rfl rfl WH.out Try.underlying50 rfl infoGon) rfl ⟨by simp only [psd, hmk.out, if_true]; rw [← HC.out, HU.out], ⟨_, (own_cells (O3.out.mono (Nat.le_succ n)) hne2 _), by simp only [opn2, hmk.out, if_true]; exact mp_del HM.out _⟩, grow_cells (P0.out.grow.trans T3.out.grown) _⟩
  | true =>
    have hH : Maps.has D (.int .i64 b.producer) = true := HH.out.trans hun
    rw [hH]
    have HU := Seg.hid hun
    clear hun
    rcases flags_ways hf.1 hf.2 with rfl | rfl | rfl | rfl | rfl | rfl | rfl | rfl
    · -- flags 0
      have hmk : Hid (mk b = false) := by show _ = _; simp [mk, HF.out]
      have hno : Hid ((op b && (fnd b.producer st).isNone) = false) := by show _ = _; simp [op, HF.out]
      have TH := Seg.hid (Cells.there_of P0.out.rg)
      go_wp2_with (refine wpList_store_mid rfl 50 _ _ rfl (w.heap.size + 1) 0 #[.int .i64 0, .int .i64 0, .int .i64 0] rfl rfl TH.out infoGon (gz_one _ _ _) ?_)
      have WH := Seg.hid (Cells.whole (vs := #[.int .i64 0, .int .i64 0, .int .i64 0]) P0.out.rg rfl)
      exact bodyPost_ret (v := .tuple #[.agg #[.int .i64 0, .int .i64 0, .int .i64 0], .bool false]) (results_row_tmp rfl _ _ (w.heap.size + 1) _ #[.int .i64 0, .int .i64 0, .int .i64 0] _ _ _ rfl rfl WH.out Try.underlying50 rfl infoGon) rfl ⟨by simp only [psd, hmk.out]; rfl, ⟨_, (own_cells (O0.out.mono (Nat.le_succ n)) hne2 _), by simp only [opn2, hmk.out, hno.out]; exact HM.out⟩, grow_cells P0.out.grow _⟩
    · -- flags 1
      have hmk : Hid (mk b = false) := by show _ = _; simp [mk, HF.out]
      have hno : Hid ((op b && (fnd b.producer st).isNone) = false) := by show _ = _; simp [op, HF.out]
      have TH := Seg.hid (Cells.there_of P0.out.rg)
      go_wp2_with (refine wpList_store_mid rfl 50 _ _ rfl (w.heap.size + 1) 0 #[.int .i64 0, .int .i64 0, .int .i64 0] rfl rfl TH.out infoGon (gz_one _ _ _) ?_)
      have WH := Seg.hid (Cells.whole (vs := #[.int .i64 0, .int .i64 0, .int .i64 0]) P0.out.rg rfl)
      exact bodyPost_ret (v := .tuple #[.agg #[.int .i64 0, .int .i64 0, .int .i64 0], .bool false]) (results_row_tmp rfl _ _ (w.heap.size + 1) _ #[.int .i64 0, .int .i64 0, .int .i64 0] _ _ _ rfl rfl WH.out Try.underlying50 rfl infoGon) rfl ⟨by simp only [psd, hmk.out]; rfl, ⟨_, (own_cells (O0.out.mono (Nat.le_succ n)) hne2 _), by simp only [opn2, hmk.out, hno.out]; exact HM.out⟩, grow_cells P0.out.grow _⟩
    · -- flags 2
      have hmk : Hid (mk b = false) := by show _ = _; simp [mk, HF.out]
      have hno : Hid ((op b && (fnd b.producer st).isNone) = false) := by show _ = _; have := HU.out; cases h : fnd b.producer st with | none => rw [h] at this; cases this | some f => simp
      have TH := Seg.hid (Cells.there_of P0.out.rg)
      go_wp2_with (refine wpList_store_mid rfl 50 _ _ rfl (w.heap.size + 1) 0 #[.int .i64 0, .int .i64 0, .int .i64 0] rfl rfl TH.out infoGon (gz_one _ _ _) ?_)
      have WH := Seg.hid (Cells.whole (vs := #[.int .i64 0, .int .i64 0, .int .i64 0]) P0.out.rg rfl)
      exact bodyPost_ret (v := .tuple #[.agg #[.int .i64 0, .int .i64 0, .int .i64 0], .bool false]) (results_row_tmp rfl _ _ (w.heap.size + 1) _ #[.int .i64 0, .int .i64 0, .int .i64 0] _ _ _ rfl rfl WH.out Try.underlying50 rfl infoGon) rfl ⟨by simp only [psd, hmk.out]; rfl, ⟨_, (own_cells (O0.out.mono (Nat.le_succ n)) hne2 _), by simp only [opn2, hmk.out, hno.out]; exact HM.out⟩, grow_cells P0.out.grow _⟩
    · -- flags 3
      have hmk : Hid (mk b = false) := by show _ = _; simp [mk, HF.out]
      have hno : Hid ((op b && (fnd b.producer st).isNone) = false) := by show _ = _; have := HU.out; cases h : fnd b.producer st with | none => rw [h] at this; cases this | some f => simp
      have TH := Seg.hid (Cells.there_of P0.out.rg)
      go_wp2_with (refine wpList_store_mid rfl 50 _ _ rfl (w.heap.size + 1) 0 #[.int .i64 0, .int .i64 0, .int .i64 0] rfl rfl TH.out infoGon (gz_one _ _ _) ?_)
      have WH := Seg.hid (Cells.whole (vs := #[.int .i64 0, .int .i64 0, .int .i64 0]) P0.out.rg rfl)
      exact bodyPost_ret (v := .tuple #[.agg #[.int .i64 0, .int .i64 0, .int .i64 0], .bool false]) (results_row_tmp rfl _ _ (w.heap.size + 1) _ #[.int .i64 0, .int .i64 0, .int .i64 0] _ _ _ rfl rfl WH.out Try.underlying50 rfl infoGon) rfl ⟨by simp only [psd, hmk.out]; rfl, ⟨_, (own_cells (O0.out.mono (Nat.le_succ n)) hne2 _), by simp only [opn2, hmk.out, hno.out]; exact HM.out⟩, grow_cells P0.out.grow _⟩
    · -- flags 4
      have hmk : Hid (mk b = true) := by show _ = _; simp [mk, HF.out]
      go_wp2_with (first | (at_delete; refine wpList_delete_own _ rfl _ _ 82 3 rfl 3 law Try.underlying82 _ bm n _ rfl O0.out _ _ rfl (keyOf_int_mk Try.underlying3 WP.out) ?_; intro w3 hown3 hturn3; have T3 := Seg.hid hturn3; have O3 := Seg.hid hown3; have r0 : w3.heap[w.heap.size]? = _ := (hturn3.grown.block w.heap.size (by omega) (fun e => hne (by cases e; rfl))).trans P0.out.rb; have r1 : w3.heap[w.heap.size + 1]? = _ := (hturn3.grown.block (w.heap.size + 1) (by omega) (fun e => hne2 (by cases e; rfl))).trans P0.out.rg; have R1 := Seg.hid r1; have TH := Seg.hid (Cells.there_of r1); have q0 : w3.cell? ⟨w.heap.size, 0, none⟩ = some (.int .i64 b.base) := cell_of_row w3 _ 0 _ _ (0, 0) r0; have q2 : w3.cell? ⟨w.heap.size, 2, none⟩ = some (.int .i64 b.producer) := cell_of_row w3 _ 2 _ _ (0, 0) r0; clear hown3 hturn3 r0 r1) | (refine wpList_store_mid rfl 50 _ _ rfl (w.heap.size + 1) 0 #[.int .i64 b.producer, .int .i64 c0, .int .i64 b.base] rfl rfl TH.out infoGon (gz_one _ _ _) ?_))
      have WH := Seg.hid (Cells.whole (vs := #[.int .i64 b.producer, .int .i64 c0, .int .i64 b.base]) R1.out rfl)
      exact bodyPost_ret (v := .tuple #[.agg #[.int .i64 b.producer, .int .i64 c0, .int .i64 b.base], .bool true]) (results_row_tmp rfl _ _ (w.heap.size + 1) _ #[.int .i64 b.producer, .int .i64 c0, .int .i64 b.base] _ _ _ rfl rfl WH.out Try.underlying50 rfl infoGon) rfl ⟨by simp only [psd, hmk.out, if_true]; rw [← HC.out, HU.out], ⟨_, (own_cells (O3.out.mono (Nat.le_succ n)) hne2 _), by simp only [opn2, hmk.out, if_true]; exact mp_del HM.out _⟩, grow_cells (P0.out.grow.trans T3.out.grown) _⟩
    · -- flags 5
      have hmk : Hid (mk b = true) := by show _ = _; simp [mk, HF.out]
      go_wp2_with (first | (at_delete; refine wpList_delete_own _ rfl _ _ 82 3 rfl 3 law Try.underlying82 _ bm n _ rfl O0.out _ _ rfl (keyOf_int_mk Try.underlying3 WP.out) ?_; intro w3 hown3 hturn3; have T3 := Seg.hid hturn3; have O3 := Seg.hid hown3; have r0 : w3.heap[w.heap.size]? = _ := (hturn3.grown.block w.heap.size (by omega) (fun e => hne (by cases e; rfl))).trans P0.out.rb; have r1 : w3.heap[w.heap.size + 1]? = _ := (hturn3.grown.block (w.heap.size + 1) (by omega) (fun e => hne2 (by cases e; rfl))).trans P0.out.rg; have R1 := Seg.hid r1; have TH := Seg.hid (Cells.there_of r1); have q0 : w3.cell? ⟨w.heap.size, 0, none⟩ = some (.int .i64 b.base) := cell_of_row w3 _ 0 _ _ (0, 0) r0; have q2 : w3.cell? ⟨w.heap.size, 2, none⟩ = some (.int .i64 b.producer) := cell_of_row w3 _ 2 _ _ (0, 0) r0; clear hown3 hturn3 r0 r1) | (refine wpList_store_mid rfl 50 _ _ rfl (w.heap.size + 1) 0 #[.int .i64 b.producer, .int .i64 c0, .int .i64 b.base] rfl rfl TH.out infoGon (gz_one _ _ _) ?_))
      have WH := Seg.hid (Cells.whole (vs := #[.int .i64 b.producer, .int .i64 c0, .int .i64 b.base]) R1.out rfl)
      exact bodyPost_ret (v := .tuple #[.agg #[.int .i64 b.producer, .int .i64 c0, .int .i64 b.base], .bool true]) (results_row_tmp rfl _ _ (w.heap.size + 1) _ #[.int .i64 b.producer, .int .i64 c0, .int .i64 b.base] _ _ _ rfl rfl WH.out Try.underlying50 rfl infoGon) rfl ⟨by simp only [psd, hmk.out, if_true]; rw [← HC.out, HU.out], ⟨_, (own_cells (O3.out.mono (Nat.le_succ n)) hne2 _), by simp only [opn2, hmk.out, if_true]; exact mp_del HM.out _⟩, grow_cells (P0.out.grow.trans T3.out.grown) _⟩
    · -- flags 6
      have hmk : Hid (mk b = true) := by show _ = _; simp [mk, HF.out]
      go_wp2_with (first | (at_delete; refine wpList_delete_own _ rfl _ _ 82 3 rfl 3 law Try.underlying82 _ bm n _ rfl O0.out _ _ rfl (keyOf_int_mk Try.underlying3 WP.out) ?_; intro w3 hown3 hturn3; have T3 := Seg.hid hturn3; have O3 := Seg.hid hown3; have r0 : w3.heap[w.heap.size]? = _ := (hturn3.grown.block w.heap.size (by omega) (fun e => hne (by cases e; rfl))).trans P0.out.rb; have r1 : w3.heap[w.heap.size + 1]? = _ := (hturn3.grown.block (w.heap.size + 1) (by omega) (fun e => hne2 (by cases e; rfl))).trans P0.out.rg; have R1 := Seg.hid r1; have TH := Seg.hid (Cells.there_of r1); have q0 : w3.cell? ⟨w.heap.size, 0, none⟩ = some (.int .i64 b.base) := cell_of_row w3 _ 0 _ _ (0, 0) r0; have q2 : w3.cell? ⟨w.heap.size, 2, none⟩ = some (.int .i64 b.producer) := cell_of_row w3 _ 2 _ _ (0, 0) r0; clear hown3 hturn3 r0 r1) | (refine wpList_store_mid rfl 50 _ _ rfl (w.heap.size + 1) 0 #[.int .i64 b.producer, .int .i64 c0, .int .i64 b.base] rfl rfl TH.out infoGon (gz_one _ _ _) ?_))
      have WH := Seg.hid (Cells.whole (vs := #[.int .i64 b.producer, .int .i64 c0, .int .i64 b.base]) R1.out rfl)
      exact bodyPost_ret (v := .tuple #[.agg #[.int .i64 b.producer, .int .i64 c0, .int .i64 b.base], .bool true]) (results_row_tmp rfl _ _ (w.heap.size + 1) _ #[.int .i64 b.producer, .int .i64 c0, .int .i64 b.base] _ _ _ rfl rfl WH.out Try.underlying50 rfl infoGon) rfl ⟨by simp only [psd, hmk.out, if_true]; rw [← HC.out, HU.out], ⟨_, (own_cells (O3.out.mono (Nat.le_succ n)) hne2 _), by simp only [opn2, hmk.out, if_true]; exact mp_del HM.out _⟩, grow_cells (P0.out.grow.trans T3.out.grown) _⟩
    · -- flags 7
      have hmk : Hid (mk b = true) := by show _ = _; simp [mk, HF.out]
      go_wp2_with (first | (at_delete; refine wpList_delete_own _ rfl _ _ 82 3 rfl 3 law Try.underlying82 _ bm n _ rfl O0.out _ _ rfl (keyOf_int_mk Try.underlying3 WP.out) ?_; intro w3 hown3 hturn3; have T3 := Seg.hid hturn3; have O3 := Seg.hid hown3; have r0 : w3.heap[w.heap.size]? = _ := (hturn3.grown.block w.heap.size (by omega) (fun e => hne (by cases e; rfl))).trans P0.out.rb; have r1 : w3.heap[w.heap.size + 1]? = _ := (hturn3.grown.block (w.heap.size + 1) (by omega) (fun e => hne2 (by cases e; rfl))).trans P0.out.rg; have R1 := Seg.hid r1; have TH := Seg.hid (Cells.there_of r1); have q0 : w3.cell? ⟨w.heap.size, 0, none⟩ = some (.int .i64 b.base) := cell_of_row w3 _ 0 _ _ (0, 0) r0; have q2 : w3.cell? ⟨w.heap.size, 2, none⟩ = some (.int .i64 b.producer) := cell_of_row w3 _ 2 _ _ (0, 0) r0; clear hown3 hturn3 r0 r1) | (refine wpList_store_mid rfl 50 _ _ rfl (w.heap.size + 1) 0 #[.int .i64 b.producer, .int .i64 c0, .int .i64 b.base] rfl rfl TH.out infoGon (gz_one _ _ _) ?_))
      have WH := Seg.hid (Cells.whole (vs := #[.int .i64 b.producer, .int .i64 c0, .int .i64 b.base]) R1.out rfl)
      exact bodyPost_ret (v := .tuple #[.agg #[.int .i64 b.producer, .int .i64 c0, .int .i64 b.base], .bool true]) (results_row_tmp rfl _ _ (w.heap.size + 1) _ #[.int .i64 b.producer, .int .i64 c0, .int .i64 b.base] _ _ _ rfl rfl WH.out Try.underlying50 rfl infoGon) rfl ⟨by simp only [psd, hmk.out, if_true]; rw [← HC.out, HU.out], ⟨_, (own_cells (O3.out.mono (Nat.le_succ n)) hne2 _), by simp only [opn2, hmk.out, if_true]; exact mp_del HM.out _⟩, grow_cells (P0.out.grow.trans T3.out.grown) _⟩
/-- What is the least of the entries that are still to come, and of a number. -/
def lst (D : DataW Unit) (left : Lit → Bool) (a m : Int) (st : List Gon) : Prop := m ≤ a ∧ (∀ p f, fnd p st = some f → left (.int .i64 p) = false → m ≤ f) ∧ (m = a ∨ ∃ p f, fnd p st = some f ∧ m = f)
end Go.Proofs.Ytdnfnjlnfmafkaa.SdM
