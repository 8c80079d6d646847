/- The finder's key and run; The map of places: what it holds, and what keeps it; 'm[k] = append(m[k], x)' told by the entry: what stands in the map when the entry is taken, and when it is stored. -/
import Derived.RegionTactic
import Derived.Deep.QuietTactic
import Derived.BigQuiet
import Derived.Laws.Rows
import Derived.BigRegion
import Derived.WalkSmall
import Derived.Outline
import Derived.Maps.GroupsBeside
import Derived.DeepKeys4
import Derived.WideKeyEntry
import Derived.Test.YtoplbemolnpngaaGreatRows
import Derived.Test.YtoplbemolnpngaaGreatJP12
import Derived.Test.YtoplbemolnpngaaGreatJP18
namespace Go.Proofs.YtoplbemolnpngaaGreat.SqK
set_option maxRecDepth 8000
open Go.RowKit
open SqM
set_option linter.unusedVariables false
/-- The finder: the bytes and the map. -/
def fv (g o n c M : Nat) : Value := .agg #[.slice (some ⟨g, o, none⟩) n c, .map (some M)]
def k4 (l : List Int) (i : Nat) : Array Value := #[.int .u8 (l.getD i 0), .int .u8 (l.getD (i + 1) 0), .int .u8 (l.getD (i + 2) 0), .int .u8 (l.getD (i + 3) 0)]

theorem info36 : (Tryz.prog.info? 133).map (·.size) = some 4 := by kernel_rfl
def runR (l : List Int) (fr at_ beat : Nat) : Nat := if l.getD (fr + beat) 0 = l.getD (at_ + beat) 0 then rn l at_ (at_ - fr) else 0
set_option maxHeartbeats 800000 in
theorem key_any (g o c M at_ : Nat) (l : List Int) (w : World) (hl : l.length ≤ 60000) (hc : l.length ≤ c) (hg : g < w.heap.size) (hat : at_ + 4 ≤ l.length)
    (ha : ∀ i, i < l.length → w.cell? ⟨g, o + i, none⟩ = some (.int .u8 (l.getD i 0))) :
    Calls Tryz.prog 109 #[fv g o l.length c M, .int .i64 at_] w fun e w' => e = .returned (.agg (k4 l at_)) ∧ Below w.heap.size w w' := by
  unfold fv
  have c0 := ha at_ (by omega)
  have c1 := ha (at_ + 1) (by omega)
  have c2 := ha (at_ + 2) (by omega)
  have c3 := ha (at_ + 3) (by omega)
  clear ha
  unfold k4
  generalize l.getD at_ 0 = x0 at *
  generalize l.getD (at_ + 1) 0 = x1 at *
  generalize l.getD (at_ + 2) 0 = x2 at *
  generalize l.getD (at_ + 3) 0 = x3 at *
  have i0 : (0 : Int) ≤ (at_ : Int) := by omega
  have i1 : (at_ : Int) < (l.length : Int) := by omega
  have i2 : (at_ : Int) + 1 < (l.length : Int) := by omega
  have i3 : (at_ : Int) + 2 < (l.length : Int) := by omega
  have i4 : (at_ : Int) + 3 < (l.length : Int) := by omega
  go_enter Tryz.func109, Tryz.ntmps109
  go_wp2_with fail
  go_region
  go_wp2
  exact bodyPost_ret (v := .agg #[.int .u8 x0, .int .u8 x1, .int .u8 x2, .int .u8 x3]) (results_cell_row rfl _ _ (w.heap.size + 1) _ _ _ _ rfl (heap_alloc2_new w _ _) Tryz.underlying133 rfl info36) rfl ⟨rfl, (((Below.refl _ _).alloc (Nat.le_refl _) _).alloc (by simp) _).drew⟩

set_option maxRecDepth 6000 in
set_option maxHeartbeats 1600000 in
theorem run_any (g o c M fr at_ beat lg : Nat) (l : List Int) (w : World) (hl : l.length ≤ 60000) (hc : l.length ≤ c) (hg : g < w.heap.size) (hfr : fr < at_) (hbt : beat < lg) (hat : at_ + lg ≤ l.length) (hlg : lg = min (l.length - at_) 67)
    (ha : ∀ i, i < l.length → w.cell? ⟨g, o + i, none⟩ = some (.int .u8 (l.getD i 0))) :
    Calls Tryz.prog 110 #[fv g o l.length c M, .int .i64 fr, .int .i64 at_, .int .i64 beat, .int .i64 lg] w fun e w' => e = .returned (.int .i64 (runR l fr at_ beat)) ∧ Below w.heap.size w w' := by
  unfold fv
  have HA := Seg.hid ha
  have HLG := Seg.hid hlg
  clear ha hlg
  go_enter Tryz.func110, Tryz.ntmps110
  have e1 : (0 : Int) ≤ (fr : Int) + (beat : Int) := by omega
  have e2 : (fr : Int) + (beat : Int) < (l.length : Int) := by omega
  have e3 : (0 : Int) ≤ (at_ : Int) + (beat : Int) := by omega
  have e4 : (at_ : Int) + (beat : Int) < (l.length : Int) := by omega
  have t1 : ((fr : Int) + (beat : Int)).toNat = fr + beat := by omega
  have t2 : ((at_ : Int) + (beat : Int)).toNat = at_ + beat := by omega
  have c1 := HA.out (fr + beat) (by omega)
  have c2 := HA.out (at_ + beat) (by omega)
  generalize hx : l.getD (fr + beat) 0 = x at c1
  generalize hy : l.getD (at_ + beat) 0 = y at c2
  have HX := Seg.hid hx
  have HY := Seg.hid hy
  clear hx hy
  cases hsame : (x != y) with
  | true =>
    have HN : Hid (runR l fr at_ beat = 0) := by
      show runR l fr at_ beat = 0
      rw [runR, if_neg]
      rw [HX.out, HY.out]
      simpa using hsame
    go_wp2_with fail
    go_quiet (fail)
    go_wp2
    go_ret
    exact ⟨by rw [HN.out]; rfl, below_drewN ((Below.refl _ _).alloc (Nat.le_refl _) _) _⟩
  | false =>
    have HN : Hid (runR l fr at_ beat = rn l at_ (at_ - fr)) := by
      show runR l fr at_ beat = rn l at_ (at_ - fr)
      rw [runR, if_pos]
      rw [HX.out, HY.out]
      simpa using hsame
    go_wp2_with fail
    go_quiet (fail)
    go_wp2
    clear c1 c2 hsame e1 e2 e3 e4 t1 t2
    go_loopw [11] (fun v wr => ∃ n q : Nat, v = .int .i64 n ∧ n ≤ lg ∧ wr = (w.alloc (.cells #[.slice (some ⟨g, o, none⟩) l.length c, .map (some M)] 130)).drewN q ∧ Hid (∀ j, j < n → l.getD (at_ + j) 0 = l.getD (fr + j) 0)) (fun v _ => lg - (intOf v).toNat)
    case atStart => exact ⟨0, _, rfl, by omega, rfl, fun j hj => absurd hj (by omega)⟩
    case round =>
      obtain ⟨n, q, rfl, hn, rfl, HJ⟩ := hrel
      by_cases hlt : n < lg
      · have f0 : (n : Int) < (lg : Int) := by omega
        have f1 : (0 : Int) ≤ (fr : Int) + (n : Int) := by omega
        have f2 : (fr : Int) + (n : Int) < (l.length : Int) := by omega
        have f3 : (0 : Int) ≤ (at_ : Int) + (n : Int) := by omega
        have f4 : (at_ : Int) + (n : Int) < (l.length : Int) := by omega
        have t1 : ((fr : Int) + (n : Int)).toNat = fr + n := by omega
        have t2 : ((at_ : Int) + (n : Int)).toNat = at_ + n := by omega
        have c1 := HA.out (fr + n) (by omega)
        have c2 := HA.out (at_ + n) (by omega)
        generalize hx : l.getD (fr + n) 0 = x' at c1
        generalize hy : l.getD (at_ + n) 0 = y' at c2
        have HX' := Seg.hid hx
        have HY' := Seg.hid hy
        clear hx hy
        cases hsame : (x' == y') with
        | true =>
          have HE : Hid (l.getD (at_ + n) 0 = l.getD (fr + n) 0) := by
            show _ = _
            rw [HX'.out, HY'.out]
            have : x' = y' := by simpa using hsame
            exact this.symm
          go_wp2_with fail
          go_quiet (fail)
          go_wp2
          go_roundw
          case rel =>
            refine ⟨n + 1, _, by go_num, by omega, rfl, fun j hj => ?_⟩
            by_cases he : j = n
            · subst he; exact HE.out
            · exact HJ.out j (by omega)
          case measure => simp [intOf]; omega
        | false =>
          have HR : Hid (n = rn l at_ (at_ - fr)) := by
            have hg := HLG.out
            refine rn_is (by omega) (by omega) (fun j hj => ?_) (fun _ _ => ?_)
            · rw [show at_ + j - (at_ - fr) = fr + j by omega]; exact HJ.out j hj
            · rw [show at_ + n - (at_ - fr) = fr + n by omega, HX'.out, HY'.out]
              intro h
              rw [h] at hsame
              simp at hsame
          go_wp2_with fail
          go_quiet (fail)
          go_wp2
          go_ret
          exact ⟨by rw [HN.out, ← HR.out]; rfl, below_drewN (below_drewN ((Below.refl _ _).alloc (Nat.le_refl _) _) _) _⟩
      · obtain rfl : n = lg := by omega
        have f0 : decide ((n : Int) < (n : Int)) = false := by simp
        have HR : Hid (n = rn l at_ (at_ - fr)) := by
          have hg := HLG.out
          refine rn_is (by omega) (by omega) (fun j hj => ?_) (fun _ _ => by omega)
          rw [show at_ + j - (at_ - fr) = fr + j by omega]; exact HJ.out j hj
        go_wp2_with fail
        go_quiet (fail)
        go_wp2
        go_ret
        exact ⟨by rw [HN.out, ← HR.out]; rfl, below_drewN (below_drewN ((Below.refl _ _).alloc (Nat.le_refl _) _) _) _⟩
end Go.Proofs.YtoplbemolnpngaaGreat.SqK
namespace Go.Proofs.YtoplbemolnpngaaGreat.SqG
set_option maxRecDepth 8000
open Go.RowKit Go.ChangeShapes Go.WideShapes
open SqM SqK
set_option linter.unusedVariables false
theorem laidOut : laidOutB Tryz.prog = true := by kernel_rfl
theorem rowA : (133 : TypeId) < Tryz.prog.types.size := of_decide_eq_true (by kernel_rfl)
theorem wide : (match Tryz.prog.underlying 133 with | some (.array _ _) | some (.struct _) => true | _ => false) = true := by rw [Tryz.underlying133]
theorem law : WideMaps.KeyLaw Tryz.prog 133 := deep_law_laid laidOut (m := 2) (by omega) rowA (by kernel_rfl) wide
theorem keyed : Maps.Keyed Tryz.prog 133 := Maps.Keyed.of_law law
theorem zeroI (w : World) : (zeroValue 97).run Tryz.prog w = .ok (.slice none 0 0) w := by kernel_rfl
theorem cellsA : Tryz.prog.cellsOf 133 = 4 := by kernel_rfl
theorem cellsU : Tryz.prog.cellsOf 5 = 1 := by kernel_rfl
theorem typeA : Tryz.prog.keyType 133 = true := by kernel_rfl
theorem depth : ∃ n, Tryz.prog.types.size = n + 1 := ⟨Tryz.prog.types.size - 1, by have h : (133 : Nat) < Tryz.prog.types.size := rowA; omega⟩
theorem key_of (a b c d : Int) (ha : (Lit.int .u8 a).wf = true) (hb : (Lit.int .u8 b).wf = true) (hc : (Lit.int .u8 c).wf = true) (hd : (Lit.int .u8 d).wf = true) :
    ∃ kl, keyOf Tryz.prog 133 (.agg #[.int .u8 a, .int .u8 b, .int .u8 c, .int .u8 d]) = some kl := by
  obtain ⟨n, hn⟩ := depth
  have hf : (Value.agg #[.int .u8 a, .int .u8 b, .int .u8 c, .int .u8 d]).formed Tryz.prog 133 = true := by simp [Value.formed, Tryz.underlying133, cellsA]
  have hk : Tryz.prog.keyLits (n + 1 + 1) 133 [.int .u8 a, .int .u8 b, .int .u8 c, .int .u8 d] = some [.int .u8 a, .int .u8 b, .int .u8 c, .int .u8 d] := by
    simp [Program.keyLits, Tryz.underlying133, Tryz.underlying5, cellsA, cellsU, List.range_succ, ha, hb, hc, hd]
  refine ⟨.string (keyBytes [.int .u8 a, .int .u8 b, .int .u8 c, .int .u8 d]), ?_⟩
  simp [keyOf, Tryz.underlying133, typeA, hf, hn, hk, Value.cells]

def posI (l : List Int) (m i : Nat) : List Int := (pos l m i).map (fun (j : Nat) => (j : Int))
def Reads (D : DataW Unit) (kl : Lit) (zs : List Int) : Prop := (D.atKey kl .nil = .nil ∧ zs = []) ∨ D.atKey kl .nil = .slice (lits .i64 zs) []
theorem lits_inj : ∀ {a b : List Int}, (lits (H := Unit) .i64 a) = lits .i64 b → a = b
  | [], [], _ => rfl
  | [], y :: b, h => by simp [lits] at h
  | x :: a, [], h => by simp [lits] at h
  | x :: a, y :: b, h => by
    have h' : (DataW.lit (.int .i64 x) : DataW Unit) :: lits .i64 a = .lit (.int .i64 y) :: lits .i64 b := h
    obtain ⟨h1, h2⟩ := List.cons.inj h'
    have hxy : x = y := by simpa using h1
    rw [hxy, lits_inj h2]
theorem reads_eq {w : World} {base e : Nat} {v : Value} {D : DataW Unit} {kl : Lit} {zs zs' : List Int} (h : Reads D kl zs') (hat : D.atKey kl .nil = rowDatum .i64 v zs) (ho : w.ownsInts base e .i64 v zs) : zs = zs' := by
  rcases ho.datum (H := Unit) with ⟨h1, h2⟩ | h1
  · unfold Reads at h
    rw [hat, h1] at h
    rcases h with ⟨_, h⟩ | h
    · rw [h2, h]
    · simp at h
  · unfold Reads at h
    rw [hat, h1] at h
    rcases h with ⟨h, _⟩ | h
    · simp at h
    · simp at h
      exact lits_inj h

/-- Of the first m places each stands among those of its four bytes. -/
structure Grp (w : World) (M : Nat) (l : List Int) (m : Nat) : Prop where
  own : ∃ D : DataW Unit, w.ownsGroups Tryz.prog 133 (M + 1) 3 .i64 M m D ∧ ∀ i, i + 4 ≤ l.length → ∃ kl, keyOf Tryz.prog 133 (.agg (k4 l i)) = some kl ∧ Reads D kl (posI l m i)
theorem Grp.lt {w : World} {M : Nat} {l : List Int} {m : Nat} (h : Grp w M l m) : M < w.heap.size := by
  obtain ⟨D, ⟨es, clock, hb, _⟩, _⟩ := h.own
  exact (Array.getElem?_eq_some_iff.1 hb).1
/-- No row of numbers. -/
def NoRow (w : World) (g : Nat) : Prop := ∀ cur fr, w.heap[g]? ≠ some (.cells cur 3 fr)
theorem ints_row {w : World} {base : Nat} {v : Value} {zs : List Int} {g : Nat} (h : w.ownsInts base 3 .i64 v zs) (hg : v.ownBlock = some g) : ¬ NoRow w g := fun hn => by
  rcases h.1.2 with ⟨h1, _⟩ | ⟨g', cap, cur, h1, _, h3, _⟩
  · rw [h1] at hg; cases hg
  · rw [h1] at hg
    obtain rfl : g' = g := by simpa [Value.ownBlock] using hg
    exact hn _ _ h3
theorem Grp.kept {w w' : World} {M : Nat} {l : List Int} {m : Nat} {row : Option Nat} (h : Grp w M l m) (hg : w.grownBy w' row) (hr : ∀ j, row = some j → NoRow w j) (hM : some M ≠ row) : Grp w' M l m := by
  obtain ⟨D, ho, hk⟩ := h.own
  refine ⟨⟨D, ho.kept hg hM (fun es clock hb x hx => ?_), hk⟩⟩
  obtain ⟨es', clock', hb', F, _⟩ := ho
  obtain ⟨rfl, rfl⟩ : es' = es ∧ clock' = clock := by rw [hb'] at hb; simpa using hb
  cases hx' : x.val.ownBlock with
  | none => exact .inl rfl
  | some g =>
    refine .inr fun e1 => ?_
    obtain ⟨y, hy⟩ := F.reads x hx
    obtain ⟨z, hz, _⟩ := WideElems.rd_val hy
    obtain ⟨zs, hoi, _⟩ := rowElem_inv hz
    exact ints_row hoi hx' (hr g e1.symm)
theorem grown_of_below {w w' : World} (h : Below w.heap.size w w') : w.grownBy w' none := ⟨h.os, h.tape, h.output, h.size, fun k hk _ => h.block k hk⟩
theorem Grp.below {w w' : World} {M : Nat} {l : List Int} {m : Nat} (h : Grp w M l m) (hb : Below w.heap.size w w') : Grp w' M l m := h.kept (grown_of_below hb) (fun j hj => by cases hj) (by simp)
theorem Grp.made (w : World) (l : List Int) (hl : ∀ i, i + 4 ≤ l.length → ∃ kl, keyOf Tryz.prog 133 (.agg (k4 l i)) = some kl) : Grp (w.alloc (.map #[] 0)) w.heap.size l 0 :=
  ⟨⟨.map [], World.ownsGroups_made w _ _ _ _, fun i hi => by
    obtain ⟨kl, h⟩ := hl i hi
    exact ⟨kl, h, .inl ⟨rfl, rfl⟩⟩⟩⟩
/-- What a call leaves that may change the map and its rows alone. -/
structure Kept (w w' : World) (M : Nat) : Prop where
  os : w'.os = w.os
  tape : w'.tape = w.tape
  output : w'.output = w.output
  size : w.heap.size ≤ w'.heap.size
  block : ∀ g, g < w.heap.size → g ≠ M → g < M ∨ NoRow w g → w'.heap[g]? = w.heap[g]?
theorem Kept.refl (w : World) (M : Nat) : Kept w w M := ⟨rfl, rfl, rfl, Nat.le_refl _, fun _ _ _ _ => rfl⟩
theorem Kept.trans {w w1 w2 : World} {M : Nat} (h : Kept w w1 M) (h1 : Kept w1 w2 M) : Kept w w2 M :=
  ⟨h1.os.trans h.os, h1.tape.trans h.tape, h1.output.trans h.output, Nat.le_trans h.size h1.size, fun g hg hM hn => by
    have e := h.block g hg hM hn
    rw [h1.block g (Nat.lt_of_lt_of_le hg h.size) hM (hn.imp id fun hn cur fr => by rw [e]; exact hn cur fr), e]⟩
theorem Kept.below {w w1 w2 : World} {M : Nat} (h : Kept w w1 M) (h1 : Below w1.heap.size w1 w2) : Kept w w2 M := h.trans ⟨h1.os, h1.tape, h1.output, h1.size, fun g hg _ _ => h1.block g hg⟩
theorem Kept.map {w w1 w2 : World} {M : Nat} (h : Kept w w1 M) (h1 : w1.grownBy w2 (some M)) : Kept w w2 M := h.trans ⟨h1.os, h1.tape, h1.output, h1.size, fun g hg hM _ => h1.block g hg (by simpa using hM)⟩
theorem Kept.row {w w1 w2 : World} {M : Nat} {v : Value} {zs : List Int} (h : Kept w w1 M) (ho : w1.ownsInts (M + 1) 3 .i64 v zs) (h1 : w1.grownBy w2 v.ownBlock) : Kept w w2 M := h.trans ⟨h1.os, h1.tape, h1.output, h1.size, fun g hg _ hn => h1.block g hg (fun e => hn.elim (fun hl => by have := (ho.1.lt g e.symm).1; omega) (ints_row ho e.symm))⟩
theorem keys_ok {l : List Int} (hb : ∀ i, (Lit.int .u8 (l.getD i 0)).wf = true) : ∀ i, i + 4 ≤ l.length → ∃ kl, keyOf Tryz.prog 133 (.agg (k4 l i)) = some kl := fun i _ => key_of _ _ _ _ (hb _) (hb _) (hb _) (hb _)
theorem alike_key {l : List Int} {i j : Nat} : k4 l i = k4 l j ↔ alike l i j = true := by
  simp [k4, alike]
  constructor
  · rintro ⟨h1, h2, h3, h4⟩; exact ⟨⟨⟨h1, h2⟩, h3⟩, h4⟩
  · rintro ⟨⟨⟨h1, h2⟩, h3⟩, h4⟩; exact ⟨h1, h2, h3, h4⟩
theorem pos_succ (l : List Int) (m i : Nat) : posI l (m + 1) i = if alike l i m then posI l m i ++ [(m : Int)] else posI l m i := by
  unfold posI pos
  rw [List.range_succ, List.filter_append]
  split
  · rename_i h; simp [h]
  · rename_i h; simp [h]
/-- One place more is noted. -/
theorem reads_step {D : DataW Unit} {l : List Int} {m : Nat} {kl : Lit} (hD : Maps.IsMap D) (hkl : keyOf Tryz.prog 133 (.agg (k4 l m)) = some kl) (hk : ∀ i, i + 4 ≤ l.length → ∃ kl, keyOf Tryz.prog 133 (.agg (k4 l i)) = some kl ∧ Reads D kl (posI l m i)) :
    ∀ i, i + 4 ≤ l.length → ∃ kl', keyOf Tryz.prog 133 (.agg (k4 l i)) = some kl' ∧ Reads (D.put kl (.slice (lits .i64 (posI l m m ++ [(m : Int)])) [])) kl' (posI l (m + 1) i) := fun i hi => by
  obtain ⟨kl', h1, h2⟩ := hk i hi
  refine ⟨kl', h1, ?_⟩
  by_cases he : kl' = kl
  · subst he
    have hka : k4 l i = k4 l m := by simpa using keyed.inj h1 hkl
    have ha := alike_key.1 hka
    right
    rw [Maps.atKey_put_same hD (keyed.key hkl), pos_succ, if_pos ha]
    have : posI l m i = posI l m m := by
      unfold posI pos
      congr 1
      apply List.filter_congr
      intro j _
      rw [Bool.eq_iff_iff, ← alike_key, ← alike_key, hka]
    rw [this]
  · have hna : ¬ alike l i m = true := fun ha => he (by
      have := alike_key.2 ha
      rw [this, hkl] at h1
      exact (Option.some.inj h1).symm)
    unfold Reads
    rw [Maps.atKey_put_other he, pos_succ, if_neg hna]
    exact h2
end Go.Proofs.YtoplbemolnpngaaGreat.SqG
namespace Go.Proofs.YtoplbemolnpngaaGreat.SqE
set_option maxRecDepth 8000
open Go Go.Maps Go.WideElems Go.MapKept Go.RowKit
open Go.ChangeMaps (setBlock heap_setBlock_same heap_setBlock_other)
set_option linter.unusedVariables false
section
variable {P : Program} {k t E e : TypeId} {w w' : World} {base b n : Nat} {q : IntKind}

theorem upd_det {R : Value → Option (DataW Unit × List MemPlace)} {es es' : Array MapEntry} {clock clock' : Nat} {key val : Value} {kl : Lit} (K : WideMaps.KeyLaw P k) (ht : P.underlying t = some (.map k E)) (hb : w.heap[b]? = some (.map es clock)) (hb' : w'.heap[b]? = some (.map es clock)) (F : Fit P k R es clock)
    (hkey : keyOf P k key = some kl) (h : (Instr.mapUpdate t (.map (some b)) key val).run P w = .ok () (setBlock w b (.map es' clock'))) : (Instr.mapUpdate t (.map (some b)) key val).run P w' = .ok () (setBlock w' b (.map es' clock')) := by
  obtain ⟨s1, s2, s3⟩ := F.stamped
  have pick : ∀ X, setBlock w b X = setBlock w b (.map es' clock') → setBlock w' b X = setBlock w' b (.map es' clock') := fun X hX => by
    have h1 := heap_setBlock_same hb X
    rw [hX, heap_setBlock_same hb] at h1
    rw [Option.some.inj h1]
  rcases K.find w hkey es.toList F.keys with ⟨h1, h2⟩ | ⟨j, e0, h1, h2, h3⟩ <;> rcases K.find w' hkey es.toList F.keys with ⟨g1, g2⟩ | ⟨j', e0', g1, g2, g3⟩
  · have hw : (Instr.mapUpdate t (.map (some b)) key val).run P w = .ok () (setBlock w b (.map (es.push ⟨key, val, clock⟩) (clock + 1))) := by
      simp [Instr.mapUpdate, run_underlying ht, MapKept.run_getObj_map hb, K.check w false hkey, h1, MapKept.run_setObj_map _ hb, Result.andThen, setBlock]
    have hw' : (Instr.mapUpdate t (.map (some b)) key val).run P w' = .ok () (setBlock w' b (.map (es.push ⟨key, val, clock⟩) (clock + 1))) := by
      simp [Instr.mapUpdate, run_underlying ht, MapKept.run_getObj_map hb', K.check w' false hkey, g1, MapKept.run_setObj_map _ hb', Result.andThen, setBlock]
    rw [hw] at h
    rw [hw', pick _ (by simpa using h)]
  · exact absurd g3 (h2 e0' (List.mem_of_getElem? g2))
  · exact absurd h3 (g2 e0 (List.mem_of_getElem? h2))
  · have hjj : j = j' := by
      have n1 : (es.toList.map (·.key))[j]? = some key := by simp only [List.getElem?_map, h2, Option.map_some, h3]
      have n2 : (es.toList.map (·.key))[j']? = some key := by simp only [List.getElem?_map, g2, Option.map_some, g3]
      exact (List.getElem?_inj (List.getElem?_eq_some_iff.1 n1).1 s3).1 (n1.trans n2.symm)
    subst hjj
    obtain rfl : e0 = e0' := by rw [h2] at g2; exact Option.some.inj g2
    have hj : es[j]? = some e0 := by simpa using h2
    have hw : (Instr.mapUpdate t (.map (some b)) key val).run P w = .ok () (setBlock w b (.map (es.modify j (fun e' => { e' with key := key, val := val })) clock)) := by
      simp [Instr.mapUpdate, run_underlying ht, MapKept.run_getObj_map hb, K.check w false hkey, h1, hj, h3, K.stays w hkey, MapKept.run_setObj_map _ hb, Result.andThen, setBlock]
    have hw' : (Instr.mapUpdate t (.map (some b)) key val).run P w' = .ok () (setBlock w' b (.map (es.modify j (fun e' => { e' with key := key, val := val })) clock)) := by
      simp [Instr.mapUpdate, run_underlying ht, MapKept.run_getObj_map hb', K.check w' false hkey, g1, hj, h3, K.stays w' hkey, MapKept.run_setObj_map _ hb', Result.andThen, setBlock]
    rw [hw] at h
    rw [hw', pick _ (by simpa using h)]
theorem grown_set {es es' : Array MapEntry} {clock clock' : Nat} (hb : w.heap[b]? = some (.map es clock)) : w.grownBy (setBlock w b (.map es' clock')) (some b) := ⟨rfl, rfl, rfl, by simp [setBlock], fun i _ hi => heap_setBlock_other hb _ (fun e1 => hi (by rw [e1]))⟩
theorem set_set (w : World) (b : Nat) (x y : Obj) : setBlock (setBlock w b x) b y = setBlock w b y := by simp [setBlock]

/-- THE ENTRY IS TAKEN: its slice and what that owns; and when the entry is stored, one number longer at most, the map reads so. -/
theorem groups_entry {D : DataW Unit} {key : Value} {kl : Lit} (K : WideMaps.KeyLaw P k) (h : w.ownsGroups P k base e q b n D) (ht : P.underlying t = some (.map k E)) (hz : ∀ u : World, (zeroValue E).run P u = .ok (.slice none 0 0) u) (hn : n < maxLen) (hkey : keyOf P k key = some kl) :
    ∃ (v : Value) (zs : List Int) (st : Nat) (w1 : World), (Instr.mapEntry t (.map (some b)) key).run P w = .ok (.tuple #[v, goInt st]) w1 ∧ D.atKey kl .nil = rowDatum q v zs ∧ w1.ownsInts base e q v zs ∧ zs.length ≤ n ∧ w.grownBy w1 (some b) ∧ (∀ No : Nat → Prop, w.Shuns b No → ∀ g, v.ownBlock = some g → ¬ No g) ∧
      ∀ (w2 : World) (v' : Value) (zs' : List Int), w1.grownBy w2 v.ownBlock → w2.ownsInts base e q v' zs' → zs'.length ≤ n + 1 → (v'.ownBlock = v.ownBlock ∨ ∃ g, v'.ownBlock = some g ∧ w.heap.size ≤ g) →
        ∃ w3, (Instr.entryStore t (.map (some b)) (goInt st) v').run P w2 = .ok () w3 ∧ w3.ownsGroups P k base e q b (n + 1) (D.put kl (rowDatum q v' zs')) ∧ w2.grownBy w3 (some b) ∧ ∀ No : Nat → Prop, w.Shuns b No → (∀ g, v'.ownBlock = some g → ¬ No g) → w3.Shuns b No := by
  have K' : Keyed P k := Keyed.of_law K
  have h0 := h
  obtain ⟨v, zs, hlook, hat, hoi, hzl, hback⟩ := h.at K' ht (hz w) hn hkey
  obtain ⟨es, clock, hb, F, hs, hD, hbb, _, _⟩ := h0
  obtain ⟨v0, st, es1, clock1, hrun, hv0, hst⟩ := entry_then_store K ht hz hb F hkey
  have hvv : v0 = v ∧ ∀ No : Nat → Prop, w.Shuns b No → ∀ g, v.ownBlock = some g → ¬ No g := by
    rcases Maps.fit_look false K' ht (hz w) hb F hkey with ⟨hr, hno, _⟩ | ⟨e0, y, hm0, hk0, hr, _⟩
    · rw [hlook] at hr
      obtain rfl : v = .slice none 0 0 := by simpa using hr
      refine ⟨?_, fun No _ g hg => by cases hg⟩
      rcases hv0 with ⟨e1, hm1, hk1, _⟩ | ⟨_, h1⟩
      · exact absurd hk1 (hno e1 hm1)
      · exact h1
    · rw [hlook] at hr
      obtain rfl : v = e0.val := by simpa using hr
      refine ⟨?_, fun No hs g hg => hs es clock hb e0 hm0 g hg⟩
      rcases hv0 with ⟨e1, hm1, hk1, h1⟩ | ⟨h1, _⟩
      · rw [h1]
        obtain ⟨_, _, s3⟩ := F.stamped
        obtain ⟨i, hi, rfl⟩ := List.getElem_of_mem hm0
        obtain ⟨j, hj, rfl⟩ := List.getElem_of_mem hm1
        have : i = j := (List.getElem?_inj (l := es.toList.map (·.key)) (by simpa using hi) s3).1 (by
          have a1 : es.toList[i]? = some es.toList[i] := List.getElem?_eq_getElem hi
          have a2 : es.toList[j]? = some es.toList[j] := List.getElem?_eq_getElem hj
          simp only [List.getElem?_map, a1, a2, Option.map_some, hk0, hk1])
        subst this
        rfl
      · exact absurd hk0 (h1 e0 hm0)
  obtain ⟨rfl, hsh⟩ := hvv
  have g1 : w.grownBy (setBlock w b (.map es1 clock1)) (some b) := grown_set hb
  have hblt : b < w.heap.size := (Array.getElem?_eq_some_iff.1 hb).1
  have offb : ∀ {u : World} {x : Value} {ys : List Int}, u.ownsInts base e q x ys → x.ownBlock = none ∨ x.ownBlock ≠ some b := fun {u x ys} ho => by
    cases hu : x.ownBlock with
    | none => exact .inl rfl
    | some g =>
      refine .inr (fun e1 => ?_)
      have := (ho.1.lt g hu).1
      cases e1
      omega
  refine ⟨v0, zs, st, _, hrun, hat, hoi.kept g1 (offb hoi), hzl, g1, hsh, fun w2 v' zs' hg hown hl hloc => ?_⟩
  have hvb : some b ≠ v0.ownBlock := fun e1 => by
    rcases offb hoi with h1 | h1
    · rw [h1] at e1; cases e1
    · exact h1 e1.symm
  have hb1 : (setBlock w b (.map es1 clock1)).heap[b]? = some (.map es1 clock1) := heap_setBlock_same hb _
  have hb2 : w2.heap[b]? = some (.map es1 clock1) := (hg.block b (Nat.lt_of_lt_of_le hblt g1.size) hvb).trans hb1
  obtain ⟨es', clock', hstore, hupd⟩ := hst w2 v' hb2
  have hbr : (setBlock w2 b (.map es clock)).heap[b]? = some (.map es clock) := heap_setBlock_same hb2 _
  have gr : w.grownBy (setBlock w2 b (.map es clock)) v0.ownBlock := ⟨hg.os.trans g1.os, hg.tape.trans g1.tape, hg.output.trans g1.output, Nat.le_trans g1.size (Nat.le_trans hg.size (grown_set hb2).size), fun i hi hne => by
    by_cases hib : i = b
    · subst hib; rw [hbr, hb]
    · rw [heap_setBlock_other hb2 _ hib, hg.block i (Nat.lt_of_lt_of_le hi g1.size) hne, heap_setBlock_other hb _ hib]⟩
  obtain ⟨w3, hr3, o3, g3⟩ := hback (setBlock w2 b (.map es clock)) v' zs' gr (hown.kept (grown_set hb2) (offb hown)) hl hloc
  have hdet := upd_det K ht hb hbr F hkey hupd
  rw [hr3] at hdet
  have hw3 : w3 = setBlock w2 b (.map es' clock') := by
    have : w3 = setBlock (setBlock w2 b (.map es clock)) b (.map es' clock') := by simpa using hdet
    rw [this, set_set]
  refine ⟨w3, by rw [hstore, hw3], o3, by rw [hw3]; exact grown_set hb2, fun No hsn hno => ?_⟩
  obtain ⟨es2, clock2, hb3, hwho⟩ := stored_who K' ht hbr F (Nat.lt_of_le_of_lt hs hn) hkey hr3
  intro es3 clock3 hb3' y hy g hyg
  obtain ⟨rfl, rfl⟩ : es2 = es3 ∧ clock2 = clock3 := by rw [hb3] at hb3'; simpa using hb3'
  rcases hwho y hy with ⟨hy0, _⟩ | ⟨_, hval⟩
  · exact hsn es clock hb y hy0 g hyg
  · exact hno g (hval ▸ hyg)

/-- THE ENTRY AT THE OPERATION. -/
theorem wpList_entry {ops : Array Oper} {rest : List Oper} {o : Oper} {a : Act} {Q : Exit → Act → World → Prop} (hg : o.guard = none) (m x : Operand) (hop : o.op = Op.mapEntry t m x) {D : DataW Unit} {key : Value} {kl : Lit} (K : WideMaps.KeyLaw P k) (h : w.ownsGroups P k base e q b n D) (ht : P.underlying t = some (.map k E)) (hz : ∀ u : World, (zeroValue E).run P u = .ok (.slice none 0 0) u) (hn : n < maxLen)
    (hm : a.eval m = .map (some b)) (hx : a.eval x = key) (hkey : keyOf P k key = some kl)
    (hK : ∀ (v : Value) (zs : List Int) (st : Nat) (w1 : World), D.atKey kl .nil = rowDatum q v zs → w1.ownsInts base e q v zs → zs.length ≤ n → w.grownBy w1 (some b) → (∀ No : Nat → Prop, w.Shuns b No → ∀ g, v.ownBlock = some g → ¬ No g) →
      (∀ (w2 : World) (v' : Value) (zs' : List Int), w1.grownBy w2 v.ownBlock → w2.ownsInts base e q v' zs' → zs'.length ≤ n + 1 → (v'.ownBlock = v.ownBlock ∨ ∃ g, v'.ownBlock = some g ∧ w.heap.size ≤ g) →
        ∃ w3, (Instr.entryStore t (.map (some b)) (goInt st) v').run P w2 = .ok () w3 ∧ w3.ownsGroups P k base e q b (n + 1) (D.put kl (rowDatum q v' zs')) ∧ w2.grownBy w3 (some b) ∧ ∀ No : Nat → Prop, w.Shuns b No → (∀ g, v'.ownBlock = some g → ¬ No g) → w3.Shuns b No) →
      wpList P ops Q rest (a.put o.dst (.tuple #[v, goInt st])) w1) : wpList P ops Q (o :: rest) a w := by
  refine wpList_plain hg fun K' hK' => ?_
  obtain ⟨v, zs, st, w1, hrun, h1, h2, h3, h4, h5, h6⟩ := groups_entry K h ht hz hn hkey
  unfold Oper.wp
  simp [execOp, hop, hm, hx, hrun, Result.andThen]
  exact hK' _ _ (hK v zs st w1 h1 h2 h3 h4 h5 h6)
/-- THE STORE AT THE OPERATION. -/
theorem wpList_stored {ops : Array Oper} {rest : List Oper} {o : Oper} {a : Act} {Q : Exit → Act → World → Prop} {w3 : World} {st : Nat} {v' : Value} (hg : o.guard = none) (m x y : Operand) (hop : o.op = Op.entryStore t m x y) (hm : a.eval m = .map (some b)) (hx : a.eval x = goInt st) (hy : a.eval y = v')
    (hrun : (Instr.entryStore t (.map (some b)) (goInt st) v').run P w = .ok () w3) (hK : wpList P ops Q rest (a.put o.dst undef) w3) : wpList P ops Q (o :: rest) a w := by
  refine wpList_plain hg fun K' hK' => ?_
  unfold Oper.wp
  simp [execOp, hop, hm, hx, hy, hrun, Result.andThen]
  exact hK' _ _ hK
end
end Go.Proofs.YtoplbemolnpngaaGreat.SqE
