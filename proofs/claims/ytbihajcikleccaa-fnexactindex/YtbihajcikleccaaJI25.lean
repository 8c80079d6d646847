/- 'm[k] = append(m[k], x)' told by the entry: what stands in the map when the entry is taken, and when it is stored; The finder's note. -/
import Derived.Maps.GroupsBeside
import Derived.WideKeyEntry
import Derived.Maps.AppendAt
import Derived.Test.YtbihajcikleccaaRows
import Derived.Test.YtbihajcikleccaaJI24
namespace Go.Proofs.Ytbihajcikleccaa.SqE
set_option maxRecDepth 8000
open Go Go.Maps Go.WideElems Go.MapKept Go.RowKit
open Go.ChangeMaps (setBlock heap_setBlock_same heap_setBlock_other)
set_option linter.unusedVariables false
section
variable {P : Program} {k t E e : TypeId} {w w' : World} {base b n : Nat} {q : IntKind}

theorem upd_det {R : Value → Option (DataW Unit × List MemPlace)} {es es' : Array MapEntry} {clock clock' : Nat} {key val : Value} {kl : Lit} (K : WideMaps.KeyLaw P k) (ht : P.underlying t = some (.map k E)) (hb : w.heap[b]? = some (.map es clock)) (hb' : w'.heap[b]? = some (.map es clock)) (F : Fit P k R es clock)
    (hkey : keyOf P k key = some kl) (h : (Instr.mapUpdate t (.map (some b)) key val).run P w = .ok () (setBlock w b (.map es' clock'))) : (Instr.mapUpdate t (.map (some b)) key val).run P w' = .ok () (setBlock w' b (.map es' clock')) := by
  obtain ⟨s1, s2, s3⟩ := F.stamped
  have pick : ∀ X, setBlock w b X = setBlock w b (.map es' clock') → setBlock w' b X = setBlock w' b (.map es' clock') := fun X hX => by
    have h1 := heap_setBlock_same hb X
    rw [hX, heap_setBlock_same hb] at h1
    rw [Option.some.inj h1]
  rcases K.find w hkey es.toList F.keys with ⟨h1, h2⟩ | ⟨j, e0, h1, h2, h3⟩ <;> rcases K.find w' hkey es.toList F.keys with ⟨g1, g2⟩ | ⟨j', e0', g1, g2, g3⟩
  · have hw : (Instr.mapUpdate t (.map (some b)) key val).run P w = .ok () (setBlock w b (.map (es.push ⟨key, val, clock⟩) (clock + 1))) := by
      simp [Instr.mapUpdate, run_underlying ht, MapKept.run_getObj_map hb, K.check w false hkey, h1, MapKept.run_setObj_map _ hb, Result.andThen, setBlock]
    have hw' : (Instr.mapUpdate t (.map (some b)) key val).run P w' = .ok () (setBlock w' b (.map (es.push ⟨key, val, clock⟩) (clock + 1))) := by
      simp [Instr.mapUpdate, run_underlying ht, MapKept.run_getObj_map hb', K.check w' false hkey, g1, MapKept.run_setObj_map _ hb', Result.andThen, setBlock]
    rw [hw] at h
    rw [hw', pick _ (by simpa using h)]
  · exact absurd g3 (h2 e0' (List.mem_of_getElem? g2))
  · exact absurd h3 (g2 e0 (List.mem_of_getElem? h2))
  · have hjj : j = j' := by
      have n1 : (es.toList.map (·.key))[j]? = some key := by simp only [List.getElem?_map, h2, Option.map_some, h3]
      have n2 : (es.toList.map (·.key))[j']? = some key := by simp only [List.getElem?_map, g2, Option.map_some, g3]
      exact (List.getElem?_inj (List.getElem?_eq_some_iff.1 n1).1 s3).1 (n1.trans n2.symm)
    subst hjj
    obtain rfl : e0 = e0' := by rw [h2] at g2; exact Option.some.inj g2
    have hj : es[j]? = some e0 := by simpa using h2
    have hw : (Instr.mapUpdate t (.map (some b)) key val).run P w = .ok () (setBlock w b (.map (es.modify j (fun e' => { e' with key := key, val := val })) clock)) := by
      simp [Instr.mapUpdate, run_underlying ht, MapKept.run_getObj_map hb, K.check w false hkey, h1, hj, h3, K.stays w hkey, MapKept.run_setObj_map _ hb, Result.andThen, setBlock]
    have hw' : (Instr.mapUpdate t (.map (some b)) key val).run P w' = .ok () (setBlock w' b (.map (es.modify j (fun e' => { e' with key := key, val := val })) clock)) := by
      simp [Instr.mapUpdate, run_underlying ht, MapKept.run_getObj_map hb', K.check w' false hkey, g1, hj, h3, K.stays w' hkey, MapKept.run_setObj_map _ hb', Result.andThen, setBlock]
    rw [hw] at h
    rw [hw', pick _ (by simpa using h)]
theorem grown_set {es es' : Array MapEntry} {clock clock' : Nat} (hb : w.heap[b]? = some (.map es clock)) : w.grownBy (setBlock w b (.map es' clock')) (some b) := ⟨rfl, rfl, rfl, by simp [setBlock], fun i _ hi => heap_setBlock_other hb _ (fun e1 => hi (by rw [e1]))⟩
theorem set_set (w : World) (b : Nat) (x y : Obj) : setBlock (setBlock w b x) b y = setBlock w b y := by simp [setBlock]

/-- THE ENTRY IS TAKEN: its slice and what that owns; and when the entry is stored, one number longer at most, the map reads so. -/
theorem groups_entry {D : DataW Unit} {key : Value} {kl : Lit} (K : WideMaps.KeyLaw P k) (h : w.ownsGroups P k base e q b n D) (ht : P.underlying t = some (.map k E)) (hz : ∀ u : World, (zeroValue E).run P u = .ok (.slice none 0 0) u) (hn : n < maxLen) (hkey : keyOf P k key = some kl) :
    ∃ (v : Value) (zs : List Int) (st : Nat) (w1 : World), (Instr.mapEntry t (.map (some b)) key).run P w = .ok (.tuple #[v, goInt st]) w1 ∧ D.atKey kl .nil = rowDatum q v zs ∧ w1.ownsInts base e q v zs ∧ zs.length ≤ n ∧ w.grownBy w1 (some b) ∧ (∀ No : Nat → Prop, w.Shuns b No → ∀ g, v.ownBlock = some g → ¬ No g) ∧
      ∀ (w2 : World) (v' : Value) (zs' : List Int), w1.grownBy w2 v.ownBlock → w2.ownsInts base e q v' zs' → zs'.length ≤ n + 1 → (v'.ownBlock = v.ownBlock ∨ ∃ g, v'.ownBlock = some g ∧ w.heap.size ≤ g) →
        ∃ w3, (Instr.entryStore t (.map (some b)) (goInt st) v').run P w2 = .ok () w3 ∧ w3.ownsGroups P k base e q b (n + 1) (D.put kl (rowDatum q v' zs')) ∧ w2.grownBy w3 (some b) ∧ ∀ No : Nat → Prop, w.Shuns b No → (∀ g, v'.ownBlock = some g → ¬ No g) → w3.Shuns b No := by
  have K' : Keyed P k := Keyed.of_law K
  have h0 := h
  obtain ⟨v, zs, hlook, hat, hoi, hzl, hback⟩ := h.at K' ht (hz w) hn hkey
  obtain ⟨es, clock, hb, F, hs, hD, hbb, _, _⟩ := h0
  obtain ⟨v0, st, es1, clock1, hrun, hv0, hst⟩ := entry_then_store K ht hz hb F hkey
  have hvv : v0 = v ∧ ∀ No : Nat → Prop, w.Shuns b No → ∀ g, v.ownBlock = some g → ¬ No g := by
    rcases Maps.fit_look false K' ht (hz w) hb F hkey with ⟨hr, hno, _⟩ | ⟨e0, y, hm0, hk0, hr, _⟩
    · rw [hlook] at hr
      obtain rfl : v = .slice none 0 0 := by simpa using hr
      refine ⟨?_, fun No _ g hg => by cases hg⟩
      rcases hv0 with ⟨e1, hm1, hk1, _⟩ | ⟨_, h1⟩
      · exact absurd hk1 (hno e1 hm1)
      · exact h1
    · rw [hlook] at hr
      obtain rfl : v = e0.val := by simpa using hr
      refine ⟨?_, fun No hs g hg => hs es clock hb e0 hm0 g hg⟩
      rcases hv0 with ⟨e1, hm1, hk1, h1⟩ | ⟨h1, _⟩
      · rw [h1]
        obtain ⟨_, _, s3⟩ := F.stamped
        obtain ⟨i, hi, rfl⟩ := List.getElem_of_mem hm0
        obtain ⟨j, hj, rfl⟩ := List.getElem_of_mem hm1
        have : i = j := (List.getElem?_inj (l := es.toList.map (·.key)) (by simpa using hi) s3).1 (by
          have a1 : es.toList[i]? = some es.toList[i] := List.getElem?_eq_getElem hi
          have a2 : es.toList[j]? = some es.toList[j] := List.getElem?_eq_getElem hj
          simp only [List.getElem?_map, a1, a2, Option.map_some, hk0, hk1])
        subst this
        rfl
      · exact absurd hk0 (h1 e0 hm0)
  obtain ⟨rfl, hsh⟩ := hvv
  have g1 : w.grownBy (setBlock w b (.map es1 clock1)) (some b) := grown_set hb
  have hblt : b < w.heap.size := (Array.getElem?_eq_some_iff.1 hb).1
  have offb : ∀ {u : World} {x : Value} {ys : List Int}, u.ownsInts base e q x ys → x.ownBlock = none ∨ x.ownBlock ≠ some b := fun {u x ys} ho => by
    cases hu : x.ownBlock with
    | none => exact .inl rfl
    | some g =>
      refine .inr (fun e1 => ?_)
      have := (ho.1.lt g hu).1
      cases e1
      omega
  refine ⟨v0, zs, st, _, hrun, hat, hoi.kept g1 (offb hoi), hzl, g1, hsh, fun w2 v' zs' hg hown hl hloc => ?_⟩
  have hvb : some b ≠ v0.ownBlock := fun e1 => by
    rcases offb hoi with h1 | h1
    · rw [h1] at e1; cases e1
    · exact h1 e1.symm
  have hb1 : (setBlock w b (.map es1 clock1)).heap[b]? = some (.map es1 clock1) := heap_setBlock_same hb _
  have hb2 : w2.heap[b]? = some (.map es1 clock1) := (hg.block b (Nat.lt_of_lt_of_le hblt g1.size) hvb).trans hb1
  obtain ⟨es', clock', hstore, hupd⟩ := hst w2 v' hb2
  have hbr : (setBlock w2 b (.map es clock)).heap[b]? = some (.map es clock) := heap_setBlock_same hb2 _
  have gr : w.grownBy (setBlock w2 b (.map es clock)) v0.ownBlock := ⟨hg.os.trans g1.os, hg.tape.trans g1.tape, hg.output.trans g1.output, Nat.le_trans g1.size (Nat.le_trans hg.size (grown_set hb2).size), fun i hi hne => by
    by_cases hib : i = b
    · subst hib; rw [hbr, hb]
    · rw [heap_setBlock_other hb2 _ hib, hg.block i (Nat.lt_of_lt_of_le hi g1.size) hne, heap_setBlock_other hb _ hib]⟩
  obtain ⟨w3, hr3, o3, g3⟩ := hback (setBlock w2 b (.map es clock)) v' zs' gr (hown.kept (grown_set hb2) (offb hown)) hl hloc
  have hdet := upd_det K ht hb hbr F hkey hupd
  rw [hr3] at hdet
  have hw3 : w3 = setBlock w2 b (.map es' clock') := by
    have : w3 = setBlock (setBlock w2 b (.map es clock)) b (.map es' clock') := by simpa using hdet
    rw [this, set_set]
  refine ⟨w3, by rw [hstore, hw3], o3, by rw [hw3]; exact grown_set hb2, fun No hsn hno => ?_⟩
  obtain ⟨es2, clock2, hb3, hwho⟩ := stored_who K' ht hbr F (Nat.lt_of_le_of_lt hs hn) hkey hr3
  intro es3 clock3 hb3' y hy g hyg
  obtain ⟨rfl, rfl⟩ : es2 = es3 ∧ clock2 = clock3 := by rw [hb3] at hb3'; simpa using hb3'
  rcases hwho y hy with ⟨hy0, _⟩ | ⟨_, hval⟩
  · exact hsn es clock hb y hy0 g hyg
  · exact hno g (hval ▸ hyg)

/-- THE ENTRY AT THE OPERATION. -/
theorem wpList_entry {ops : Array Oper} {rest : List Oper} {o : Oper} {a : Act} {Q : Exit → Act → World → Prop} (hg : o.guard = none) (m x : Operand) (hop : o.op = Op.mapEntry t m x) {D : DataW Unit} {key : Value} {kl : Lit} (K : WideMaps.KeyLaw P k) (h : w.ownsGroups P k base e q b n D) (ht : P.underlying t = some (.map k E)) (hz : ∀ u : World, (zeroValue E).run P u = .ok (.slice none 0 0) u) (hn : n < maxLen)
    (hm : a.eval m = .map (some b)) (hx : a.eval x = key) (hkey : keyOf P k key = some kl)
    (hK : ∀ (v : Value) (zs : List Int) (st : Nat) (w1 : World), D.atKey kl .nil = rowDatum q v zs → w1.ownsInts base e q v zs → zs.length ≤ n → w.grownBy w1 (some b) → (∀ No : Nat → Prop, w.Shuns b No → ∀ g, v.ownBlock = some g → ¬ No g) →
      (∀ (w2 : World) (v' : Value) (zs' : List Int), w1.grownBy w2 v.ownBlock → w2.ownsInts base e q v' zs' → zs'.length ≤ n + 1 → (v'.ownBlock = v.ownBlock ∨ ∃ g, v'.ownBlock = some g ∧ w.heap.size ≤ g) →
        ∃ w3, (Instr.entryStore t (.map (some b)) (goInt st) v').run P w2 = .ok () w3 ∧ w3.ownsGroups P k base e q b (n + 1) (D.put kl (rowDatum q v' zs')) ∧ w2.grownBy w3 (some b) ∧ ∀ No : Nat → Prop, w.Shuns b No → (∀ g, v'.ownBlock = some g → ¬ No g) → w3.Shuns b No) →
      wpList P ops Q rest (a.put o.dst (.tuple #[v, goInt st])) w1) : wpList P ops Q (o :: rest) a w := by
  refine wpList_plain hg fun K' hK' => ?_
  obtain ⟨v, zs, st, w1, hrun, h1, h2, h3, h4, h5, h6⟩ := groups_entry K h ht hz hn hkey
  unfold Oper.wp
  simp [execOp, hop, hm, hx, hrun, Result.andThen]
  exact hK' _ _ (hK v zs st w1 h1 h2 h3 h4 h5 h6)
/-- THE STORE AT THE OPERATION. -/
theorem wpList_stored {ops : Array Oper} {rest : List Oper} {o : Oper} {a : Act} {Q : Exit → Act → World → Prop} {w3 : World} {st : Nat} {v' : Value} (hg : o.guard = none) (m x y : Operand) (hop : o.op = Op.entryStore t m x y) (hm : a.eval m = .map (some b)) (hx : a.eval x = goInt st) (hy : a.eval y = v')
    (hrun : (Instr.entryStore t (.map (some b)) (goInt st) v').run P w = .ok () w3) (hK : wpList P ops Q rest (a.put o.dst undef) w3) : wpList P ops Q (o :: rest) a w := by
  refine wpList_plain hg fun K' hK' => ?_
  unfold Oper.wp
  simp [execOp, hop, hm, hx, hy, hrun, Result.andThen]
  exact hK' _ _ hK
end
end Go.Proofs.Ytbihajcikleccaa.SqE
namespace Go.Proofs.Ytbihajcikleccaa.SqN
set_option maxRecDepth 8000
open Go.RowKit Go.ChangeShapes Go.WideShapes
open SqM SqK SqG
set_option linter.unusedVariables false
theorem infoI : (Try.prog.info? 3).map (fun i => (i.zero, i.size, i.bytes)) = some (some (.int .i64 0), 1, 8) := by kernel_rfl
/-- The finder lies in its own block. -/
def Par (wr : World) (p g o n c M : Nat) : Prop := wr.heap[p]? = some (.cells #[.slice (some ⟨g, o, none⟩) n c, .map (some M)] 120 (0, 0))
theorem Par.no {wr : World} {p g o n c M : Nat} (h : Par wr p g o n c M) : NoRow wr p := fun cur fr e => by rw [h] at e; simp at e
theorem Par.lt {wr : World} {p g o n c M : Nat} (h : Par wr p g o n c M) : p < wr.heap.size := (Array.getElem?_eq_some_iff.1 h).1
theorem Par.cells {wr : World} {p g o n c M : Nat} (h : Par wr p g o n c M) : wr.cell? ⟨p, 0, none⟩ = some (.slice (some ⟨g, o, none⟩) n c) ∧ wr.cell? ⟨p, 1, none⟩ = some (.map (some M)) := ⟨cell_of_row wr p 0 _ _ (0, 0) h, cell_of_row wr p 1 _ _ (0, 0) h⟩
theorem Par.kept {w w' : World} {p g o n c M : Nat} (h : Par w p g o n c M) (hk : Kept w w' M) (hp : p ≠ M) : Par w' p g o n c M := (hk.block p h.lt hp (.inr h.no)).trans h

/-- i places are noted. -/
structure Noted (w wr : World) (g o c M : Nat) (l : List Int) (i : Nat) : Prop where
  grp : Grp wr M l (min i (l.length - 3))
  kept : Kept w wr M
  par : Par wr w.heap.size g o l.length c M
theorem Noted.next {w wr w2 : World} {g o c M i : Nat} {l : List Int} {D : DataW Unit} {kl : Lit} {v v' : Value} {zs : List Int} (h : Noted w wr g o c M l i) (hi : i + 4 ≤ l.length) (hM : M < w.heap.size) (hk : Kept wr w2 M) (hkl : keyOf Try.prog 126 (.agg (k4 l i)) = some kl)
    (hD : ∀ j, j + 4 ≤ l.length → ∃ kl, keyOf Try.prog 126 (.agg (k4 l j)) = some kl ∧ Reads D kl (posI l i j)) (hIs : Maps.IsMap D) {w0 : World} {base : Nat} (hoi : w0.ownsInts base 3 .i64 v zs) (hat : D.atKey kl .nil = rowDatum .i64 v zs)
    (ho' : w2.ownsInts (M + 1) 3 .i64 v' (zs ++ [(i : Int)])) (ho : w2.ownsGroups Try.prog 126 (M + 1) 3 .i64 M (i + 1) (D.put kl (rowDatum .i64 v' (zs ++ [(i : Int)])))) : Noted w w2 g o c M l (i + 1) := by
  have hzs : zs = posI l i i := by
    obtain ⟨kl', h1, h2⟩ := hD i hi
    rw [hkl] at h1
    obtain rfl := Option.some.inj h1
    exact reads_eq h2 hat hoi
  refine ⟨?_, h.kept.trans hk, h.par.kept hk (by omega)⟩
  rw [show min (i + 1) (l.length - 3) = i + 1 by omega]
  rw [ho'.datum_pos (by simp), hzs] at ho
  exact ⟨⟨_, ho, reads_step hIs hkl hD⟩⟩
theorem isMap_of {w : World} {k base e b n : Nat} {D : DataW Unit} (h : w.ownsGroups Try.prog k base e .i64 b n D) : Maps.IsMap D := by
  obtain ⟨es, clock, _, _, _, rfl, _⟩ := h
  exact ⟨_, rfl⟩

theorem og_below {w w' : World} {k base e b n : Nat} {D : DataW Unit} (h : w.ownsGroups Try.prog k base e .i64 b n D) (hb : Below w.heap.size w w') : w'.ownsGroups Try.prog k base e .i64 b n D :=
  h.kept (grown_of_below hb) (by simp) (fun es clock _ x _ => by cases x.val.ownBlock <;> simp)
theorem one_kept (w1 : World) {w3 : World} (ob : Obj) (v : Int) {M : Nat} {t : TypeId} (hg : ((w1.alloc ob).alloc (.cells #[.int .i64 v] t)).grownBy w3 (some M)) (hM : M ≠ w1.heap.size + 1) : ∀ j u, [Value.int .i64 v][j]? = some u → w3.cell? ((⟨w1.heap.size + 1, 0, none⟩ : Addr).add j) = some u := fun j u hj => by
  have h := cell_one_new (w1.alloc ob) (.int .i64 v) t j u hj
  rw [show (w1.alloc ob).heap.size = w1.heap.size + 1 by simp] at h
  exact hg.cell h (by unfold Addr.add; split <;> simpa using fun e => hM e.symm)
theorem kept_ints {w w' : World} {M : Nat} {v : Value} {zs : List Int} (h : w.ownsInts (M + 1) 3 .i64 v zs) (hg : w.grownBy w' (some M)) : w'.ownsInts (M + 1) 3 .i64 v zs := by
  refine h.kept hg ?_
  cases hu : v.ownBlock with
  | none => exact .inl rfl
  | some g =>
    refine .inr fun e1 => ?_
    have := (h.1.lt g hu).1
    cases e1
    omega

set_option maxRecDepth 4000 in
set_option maxHeartbeats 1600000 in
theorem note_any (g o c M at_ cnt : Nat) (l : List Int) (w : World) (hl : l.length ≤ 60000) (hc : l.length ≤ c) (hg : g < w.heap.size) (hgM : g ≠ M) (hgn : g < M ∨ NoRow w g) (hat : at_ + cnt ≤ l.length)
    (ha : ∀ i, i < l.length → w.cell? ⟨g, o + i, none⟩ = some (.int .u8 (l.getD i 0))) (hG : Grp w M l (min at_ (l.length - 3))) :
    Calls Try.prog 87 #[fv g o l.length c M, .int .i64 at_, .int .i64 cnt] w fun e w' => e = .returned (.tuple #[]) ∧ Grp w' M l (min (at_ + cnt) (l.length - 3)) ∧ Kept w w' M := by
  obtain ⟨i0, hi, hz0, hz1, hz2⟩ := info_parts infoI
  have HA := Seg.hid ha
  have hM := hG.lt
  have HN0 : Hid (Noted w (w.alloc (.cells #[.slice (some ⟨g, o, none⟩) l.length c, .map (some M)] 120)) g o c M l at_) := ⟨hG.below ((Below.refl _ _).alloc (Nat.le_refl _) _), (Kept.refl w M).below ((Below.refl _ _).alloc (Nat.le_refl _) _), heap_alloc_new _ _⟩
  clear ha hG
  unfold fv
  go_enter Try.func87, Try.ntmps87
  by_cases hend : (at_ : Int) + (cnt : Int) ≤ (l.length : Int) - 4 + 1
  · go_wp2_with fail
    go_loopw [7, 8] (fun x _ wr => ∃ i : Nat, x = .int .i64 i ∧ at_ ≤ i ∧ i ≤ at_ + cnt ∧ Noted w wr g o c M l i) (fun x _ _ => l.length - (intOf x).toNat)
    case atStart => exact ⟨at_, rfl, Nat.le_refl _, by omega, HN0.out⟩
    case round =>
      clear HN0
      obtain ⟨i, rfl, h1, h2, NT⟩ := hrel
      have HN := Seg.hid NT
      by_cases hlt : i < at_ + cnt
      · have f0 : (i : Int) < (at_ : Int) + (cnt : Int) := by omega
        obtain ⟨p0, p1⟩ := NT.par.cells
        have hpl := NT.par.lt
        clear NT
        have hi4 : i + 4 ≤ l.length := by omega
        have hcell : Hid (∀ j, j < l.length → wr.cell? ⟨g, o + j, none⟩ = some (.int .u8 (l.getD j 0))) := fun j hj => by
          rw [World.cell?_of_block (w := w) (a := ⟨g, o + j, none⟩) (HN.out.kept.block g hg hgM hgn)]; exact HA.out j hj
        have hgr : g < wr.heap.size := Nat.lt_of_lt_of_le hg HN.out.kept.size
        go_wp2_with fail
        refine (key_any g o c M i l wr hl hc hgr hi4 hcell.out).mono ?_
        rintro e w1 ⟨rfl, b1⟩
        obtain ⟨D, hOG, hD⟩ := HN.out.grp.own
        rw [show min i (l.length - 3) = i by omega] at hOG hD
        obtain ⟨kl, hkl, _⟩ := hD i hi4
        have HKL := Seg.hid hkl
        obtain ⟨x0, x1, x2, x3, hx4⟩ : ∃ x0 x1 x2 x3 : Int, k4 l i = #[.int .u8 x0, .int .u8 x1, .int .u8 x2, .int .u8 x3] := ⟨_, _, _, _, rfl⟩
        rw [hx4] at hkl ⊢
        have q1 : w1.cell? ⟨w.heap.size, 1, none⟩ = some (.map (some M)) := by rw [b1.cell (p := ⟨w.heap.size, 1, none⟩) hpl]; exact p1
        have hpl1 : w.heap.size < w1.heap.size := Nat.lt_of_lt_of_le hpl b1.size
        have HOG := Seg.hid hOG; have HD := Seg.hid hD; have B1 := Seg.hid b1
        have hIM := Seg.hid (isMap_of hOG)
        clear p0 p1 hOG hD b1
        have WB : Hid (Below wr.heap.size wr ((w1.alloc (.cells #[.int .u8 x0, .int .u8 x1, .int .u8 x2, .int .u8 x3] 126)).alloc (.cells #[.int .i64 (i : Int)] 3))) := (B1.out.alloc B1.out.size _).alloc (Nat.le_trans B1.out.size (by simp)) _
        have OG := Seg.hid (og_below HOG.out WB.out)
        have hMw : M < wr.heap.size := HN.out.grp.lt
        have hMl : M < w1.heap.size := Nat.lt_of_lt_of_le hMw B1.out.size
        go_wp2_with (first | (refine SqE.wpList_entry rfl (.tmp 28) (.tmp 29) rfl law OG.out Try.underlying118 zeroI ?hn rfl rfl hkl ?_; (case hn => unfold maxLen; omega); intro v zs st w3 hat' hoi hzl hg1 hsh hback; have NW := Seg.hid (one_kept w1 _ (i : Int) hg1 (by omega)); have hsz3 := hg1.size) | (at_builtin; refine wpList_append_own_at _ rfl (.tmp 30) (.tmp 32) 93 rfl (M + 1) 3 i0 (.int .i64 0) 1 8 Try.underlying93 hi hz0 hz1 hz2 rfl (by decide) v _ _ rfl hoi.1 ⟨w1.heap.size + 1, 0, none⟩ 1 1 [.int .i64 (i : Int)] rfl rfl ?hnw (ints_oneCell .i64 [(i : Int)]) ?h63 ?hby ?hba ?_; (case hnw => exact NW.out); (case h63 => unfold maxLen; omega); (case hby => omega); (case hba => simp at hsz3; omega); intro v' w4 hown' hgrow hnil hloc; obtain ⟨w5, hr5, o5, g5, s5⟩ := hback w4 v' (zs ++ [(i : Int)]) hgrow (hoi.appended hown' (WalkArith.wf_i64 (by omega))) (by simp; omega) (hloc.imp id (fun h => ⟨_, h, hsz3⟩)); have NX := Seg.hid (Noted.next HN.out hi4 hM (((((Kept.refl wr M).below WB.out).map hg1).row hoi hgrow).map g5) HKL.out HD.out hIM.out hoi hat' (kept_ints (hoi.appended hown' (WalkArith.wf_i64 (by omega))) g5) o5); clear hback hat' hsh hgrow hnil hloc o5 g5 s5 hown') | (refine SqE.wpList_stored rfl (.tmp 28) (.tmp 35) (.tmp 34) rfl rfl rfl rfl hr5 ?_))
        go_roundw
        case rel => exact ⟨i + 1, by go_num, by omega, by omega, NX.out⟩
        case measure => simp [intOf]; omega
      · have hie : i = at_ + cnt := by omega
        have f0 : ¬ (i : Int) < (at_ : Int) + (cnt : Int) := by omega
        have HG := Seg.hid (hie ▸ NT.grp : Grp wr M l (min (at_ + cnt) (l.length - 3)))
        have HK := Seg.hid NT.kept
        clear NT HN hie
        go_wp2
        go_end0
        exact ⟨rfl, HG.out, HK.out⟩
  · go_wp2_with fail
    go_loopw [7, 8] (fun x _ wr => ∃ i : Nat, x = .int .i64 i ∧ at_ ≤ i ∧ i ≤ at_ + cnt ∧ Noted w wr g o c M l i) (fun x _ _ => l.length - (intOf x).toNat)
    case atStart => exact ⟨at_, rfl, Nat.le_refl _, by omega, HN0.out⟩
    case round =>
      clear HN0
      obtain ⟨i, rfl, h1, h2, NT⟩ := hrel
      have HN := Seg.hid NT
      by_cases hlt : i + 3 < l.length
      · have f0 : (i : Int) < (l.length : Int) - 4 + 1 := by omega
        obtain ⟨p0, p1⟩ := NT.par.cells
        have hpl := NT.par.lt
        clear NT
        have hi4 : i + 4 ≤ l.length := by omega
        have hcell : Hid (∀ j, j < l.length → wr.cell? ⟨g, o + j, none⟩ = some (.int .u8 (l.getD j 0))) := fun j hj => by
          rw [World.cell?_of_block (w := w) (a := ⟨g, o + j, none⟩) (HN.out.kept.block g hg hgM hgn)]; exact HA.out j hj
        have hgr : g < wr.heap.size := Nat.lt_of_lt_of_le hg HN.out.kept.size
        go_wp2_with fail
        refine (key_any g o c M i l wr hl hc hgr hi4 hcell.out).mono ?_
        rintro e w1 ⟨rfl, b1⟩
        obtain ⟨D, hOG, hD⟩ := HN.out.grp.own
        rw [show min i (l.length - 3) = i by omega] at hOG hD
        obtain ⟨kl, hkl, _⟩ := hD i hi4
        have HKL := Seg.hid hkl
        obtain ⟨x0, x1, x2, x3, hx4⟩ : ∃ x0 x1 x2 x3 : Int, k4 l i = #[.int .u8 x0, .int .u8 x1, .int .u8 x2, .int .u8 x3] := ⟨_, _, _, _, rfl⟩
        rw [hx4] at hkl ⊢
        have q1 : w1.cell? ⟨w.heap.size, 1, none⟩ = some (.map (some M)) := by rw [b1.cell (p := ⟨w.heap.size, 1, none⟩) hpl]; exact p1
        have hpl1 : w.heap.size < w1.heap.size := Nat.lt_of_lt_of_le hpl b1.size
        have HOG := Seg.hid hOG; have HD := Seg.hid hD; have B1 := Seg.hid b1
        have hIM := Seg.hid (isMap_of hOG)
        clear p0 p1 hOG hD b1
        have WB : Hid (Below wr.heap.size wr ((w1.alloc (.cells #[.int .u8 x0, .int .u8 x1, .int .u8 x2, .int .u8 x3] 126)).alloc (.cells #[.int .i64 (i : Int)] 3))) := (B1.out.alloc B1.out.size _).alloc (Nat.le_trans B1.out.size (by simp)) _
        have OG := Seg.hid (og_below HOG.out WB.out)
        have hMw : M < wr.heap.size := HN.out.grp.lt
        have hMl : M < w1.heap.size := Nat.lt_of_lt_of_le hMw B1.out.size
        go_wp2_with (first | (refine SqE.wpList_entry rfl (.tmp 28) (.tmp 29) rfl law OG.out Try.underlying118 zeroI ?hn rfl rfl hkl ?_; (case hn => unfold maxLen; omega); intro v zs st w3 hat' hoi hzl hg1 hsh hback; have NW := Seg.hid (one_kept w1 _ (i : Int) hg1 (by omega)); have hsz3 := hg1.size) | (at_builtin; refine wpList_append_own_at _ rfl (.tmp 30) (.tmp 32) 93 rfl (M + 1) 3 i0 (.int .i64 0) 1 8 Try.underlying93 hi hz0 hz1 hz2 rfl (by decide) v _ _ rfl hoi.1 ⟨w1.heap.size + 1, 0, none⟩ 1 1 [.int .i64 (i : Int)] rfl rfl ?hnw (ints_oneCell .i64 [(i : Int)]) ?h63 ?hby ?hba ?_; (case hnw => exact NW.out); (case h63 => unfold maxLen; omega); (case hby => omega); (case hba => simp at hsz3; omega); intro v' w4 hown' hgrow hnil hloc; obtain ⟨w5, hr5, o5, g5, s5⟩ := hback w4 v' (zs ++ [(i : Int)]) hgrow (hoi.appended hown' (WalkArith.wf_i64 (by omega))) (by simp; omega) (hloc.imp id (fun h => ⟨_, h, hsz3⟩)); have NX := Seg.hid (Noted.next HN.out hi4 hM (((((Kept.refl wr M).below WB.out).map hg1).row hoi hgrow).map g5) HKL.out HD.out hIM.out hoi hat' (kept_ints (hoi.appended hown' (WalkArith.wf_i64 (by omega))) g5) o5); clear hback hat' hsh hgrow hnil hloc o5 g5 s5 hown') | (refine SqE.wpList_stored rfl (.tmp 28) (.tmp 35) (.tmp 34) rfl rfl rfl rfl hr5 ?_))
        go_roundw
        case rel => exact ⟨i + 1, by go_num, by omega, by omega, NX.out⟩
        case measure => simp [intOf]; omega
      · have hie : min i (l.length - 3) = min (at_ + cnt) (l.length - 3) := by omega
        have f0 : ¬ (i : Int) < (l.length : Int) - 4 + 1 := by omega
        have HG := Seg.hid (hie ▸ NT.grp : Grp wr M l (min (at_ + cnt) (l.length - 3)))
        have HK := Seg.hid NT.kept
        clear NT HN hie
        go_wp2
        go_end0
        exact ⟨rfl, HG.out, HK.out⟩
end Go.Proofs.Ytbihajcikleccaa.SqN
