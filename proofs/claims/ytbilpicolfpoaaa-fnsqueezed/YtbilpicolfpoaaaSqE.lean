/- 'm[k] = append(m[k], x)' told by the entry: what stands in the map when the entry is taken, and when it is stored. -/
import Derived.Maps.GroupsBeside
import Derived.WideKeyEntry
import Derived.Test.YtbilpicolfpoaaaRows
namespace Go.Proofs.Ytbilpicolfpoaaa.SqE
open Go Go.Maps Go.WideElems Go.MapKept Go.RowKit
open Go.ChangeMaps (setBlock heap_setBlock_same heap_setBlock_other)
set_option linter.unusedVariables false
section
variable {P : Program} {k t E e : TypeId} {w w' : World} {base b n : Nat} {q : IntKind}

theorem upd_det {R : Value → Option (DataW Unit × List MemPlace)} {es es' : Array MapEntry} {clock clock' : Nat} {key val : Value} {kl : Lit} (K : WideMaps.KeyLaw P k) (ht : P.underlying t = some (.map k E)) (hb : w.heap[b]? = some (.map es clock)) (hb' : w'.heap[b]? = some (.map es clock)) (F : Fit P k R es clock)
    (hkey : keyOf P k key = some kl) (h : (Instr.mapUpdate t (.map (some b)) key val).run P w = .ok () (setBlock w b (.map es' clock'))) : (Instr.mapUpdate t (.map (some b)) key val).run P w' = .ok () (setBlock w' b (.map es' clock')) := by
  obtain ⟨s1, s2, s3⟩ := F.stamped
  have pick : ∀ X, setBlock w b X = setBlock w b (.map es' clock') → setBlock w' b X = setBlock w' b (.map es' clock') := fun X hX => by
    have h1 := heap_setBlock_same hb X
    rw [hX, heap_setBlock_same hb] at h1
    rw [Option.some.inj h1]
  rcases K.find w hkey es.toList F.keys with ⟨h1, h2⟩ | ⟨j, e0, h1, h2, h3⟩ <;> rcases K.find w' hkey es.toList F.keys with ⟨g1, g2⟩ | ⟨j', e0', g1, g2, g3⟩
  · have hw : (Instr.mapUpdate t (.map (some b)) key val).run P w = .ok () (setBlock w b (.map (es.push ⟨key, val, clock⟩) (clock + 1))) := by
      simp [Instr.mapUpdate, run_underlying ht, MapKept.run_getObj_map hb, K.check w false hkey, h1, MapKept.run_setObj_map _ hb, Result.andThen, setBlock]
    have hw' : (Instr.mapUpdate t (.map (some b)) key val).run P w' = .ok () (setBlock w' b (.map (es.push ⟨key, val, clock⟩) (clock + 1))) := by
      simp [Instr.mapUpdate, run_underlying ht, MapKept.run_getObj_map hb', K.check w' false hkey, g1, MapKept.run_setObj_map _ hb', Result.andThen, setBlock]
    rw [hw] at h
    rw [hw', pick _ (by simpa using h)]
  · exact absurd g3 (h2 e0' (List.mem_of_getElem? g2))
  · exact absurd h3 (g2 e0 (List.mem_of_getElem? h2))
  · have hjj : j = j' := by
      have n1 : (es.toList.map (·.key))[j]? = some key := by simp only [List.getElem?_map, h2, Option.map_some, h3]
      have n2 : (es.toList.map (·.key))[j']? = some key := by simp only [List.getElem?_map, g2, Option.map_some, g3]
      exact (List.getElem?_inj (List.getElem?_eq_some_iff.1 n1).1 s3).1 (n1.trans n2.symm)
    subst hjj
    obtain rfl : e0 = e0' := by rw [h2] at g2; exact Option.some.inj g2
    have hj : es[j]? = some e0 := by simpa using h2
    have hw : (Instr.mapUpdate t (.map (some b)) key val).run P w = .ok () (setBlock w b (.map (es.modify j (fun e' => { e' with key := key, val := val })) clock)) := by
      simp [Instr.mapUpdate, run_underlying ht, MapKept.run_getObj_map hb, K.check w false hkey, h1, hj, h3, K.stays w hkey, MapKept.run_setObj_map _ hb, Result.andThen, setBlock]
    have hw' : (Instr.mapUpdate t (.map (some b)) key val).run P w' = .ok () (setBlock w' b (.map (es.modify j (fun e' => { e' with key := key, val := val })) clock)) := by
      simp [Instr.mapUpdate, run_underlying ht, MapKept.run_getObj_map hb', K.check w' false hkey, g1, hj, h3, K.stays w' hkey, MapKept.run_setObj_map _ hb', Result.andThen, setBlock]
    rw [hw] at h
    rw [hw', pick _ (by simpa using h)]
theorem grown_set {es es' : Array MapEntry} {clock clock' : Nat} (hb : w.heap[b]? = some (.map es clock)) : w.grownBy (setBlock w b (.map es' clock')) (some b) := ⟨rfl, rfl, rfl, by simp [setBlock], fun i _ hi => heap_setBlock_other hb _ (fun e1 => hi (by rw [e1]))⟩
theorem set_set (w : World) (b : Nat) (x y : Obj) : setBlock (setBlock w b x) b y = setBlock w b y := by simp [setBlock]

/-- THE ENTRY IS TAKEN: its slice and what that owns; and when the entry is stored, one number longer at most, the map reads so. -/
theorem groups_entry {D : DataW Unit} {key : Value} {kl : Lit} (K : WideMaps.KeyLaw P k) (h : w.ownsGroups P k base e q b n D) (ht : P.underlying t = some (.map k E)) (hz : ∀ u : World, (zeroValue E).run P u = .ok (.slice none 0 0) u) (hn : n < maxLen) (hkey : keyOf P k key = some kl) :
    ∃ (v : Value) (zs : List Int) (st : Nat) (w1 : World), (Instr.mapEntry t (.map (some b)) key).run P w = .ok (.tuple #[v, goInt st]) w1 ∧ D.atKey kl .nil = rowDatum q v zs ∧ w1.ownsInts base e q v zs ∧ zs.length ≤ n ∧ w.grownBy w1 (some b) ∧ (∀ No : Nat → Prop, w.Shuns b No → ∀ g, v.ownBlock = some g → ¬ No g) ∧
      ∀ (w2 : World) (v' : Value) (zs' : List Int), w1.grownBy w2 v.ownBlock → w2.ownsInts base e q v' zs' → zs'.length ≤ n + 1 → (v'.ownBlock = v.ownBlock ∨ ∃ g, v'.ownBlock = some g ∧ w.heap.size ≤ g) →
        ∃ w3, (Instr.entryStore t (.map (some b)) (goInt st) v').run P w2 = .ok () w3 ∧ w3.ownsGroups P k base e q b (n + 1) (D.put kl (rowDatum q v' zs')) ∧ w2.grownBy w3 (some b) ∧ ∀ No : Nat → Prop, w.Shuns b No → (∀ g, v'.ownBlock = some g → ¬ No g) → w3.Shuns b No := by
  have K' : Keyed P k := Keyed.of_law K
  have h0 := h
  obtain ⟨v, zs, hlook, hat, hoi, hzl, hback⟩ := h.at K' ht (hz w) hn hkey
  obtain ⟨es, clock, hb, F, hs, hD, hbb, _, _⟩ := h0
  obtain ⟨v0, st, es1, clock1, hrun, hv0, hst⟩ := entry_then_store K ht hz hb F hkey
  have hvv : v0 = v ∧ ∀ No : Nat → Prop, w.Shuns b No → ∀ g, v.ownBlock = some g → ¬ No g := by
    rcases Maps.fit_look false K' ht (hz w) hb F hkey with ⟨hr, hno, _⟩ | ⟨e0, y, hm0, hk0, hr, _⟩
    · rw [hlook] at hr
      obtain rfl : v = .slice none 0 0 := by simpa using hr
      refine ⟨?_, fun No _ g hg => by cases hg⟩
      rcases hv0 with ⟨e1, hm1, hk1, _⟩ | ⟨_, h1⟩
      · exact absurd hk1 (hno e1 hm1)
      · exact h1
    · rw [hlook] at hr
      obtain rfl : v = e0.val := by simpa using hr
      refine ⟨?_, fun No hs g hg => hs es clock hb e0 hm0 g hg⟩
      rcases hv0 with ⟨e1, hm1, hk1, h1⟩ | ⟨h1, _⟩
      · rw [h1]
        obtain ⟨_, _, s3⟩ := F.stamped
        obtain ⟨i, hi, rfl⟩ := List.getElem_of_mem hm0
        obtain ⟨j, hj, rfl⟩ := List.getElem_of_mem hm1
        have : i = j := (List.getElem?_inj (l := es.toList.map (·.key)) (by simpa using hi) s3).1 (by
          have a1 : es.toList[i]? = some es.toList[i] := List.getElem?_eq_getElem hi
          have a2 : es.toList[j]? = some es.toList[j] := List.getElem?_eq_getElem hj
          simp only [List.getElem?_map, a1, a2, Option.map_some, hk0, hk1])
        subst this
        rfl
      · exact absurd hk0 (h1 e0 hm0)
  obtain ⟨rfl, hsh⟩ := hvv
  have g1 : w.grownBy (setBlock w b (.map es1 clock1)) (some b) := grown_set hb
  have hblt : b < w.heap.size := (Array.getElem?_eq_some_iff.1 hb).1
  have offb : ∀ {u : World} {x : Value} {ys : List Int}, u.ownsInts base e q x ys → x.ownBlock = none ∨ x.ownBlock ≠ some b := fun {u x ys} ho => by
    cases hu : x.ownBlock with
    | none => exact .inl rfl
    | some g =>
      refine .inr (fun e1 => ?_)
      have := (ho.1.lt g hu).1
      cases e1
      omega
  refine ⟨v0, zs, st, _, hrun, hat, hoi.kept g1 (offb hoi), hzl, g1, hsh, fun w2 v' zs' hg hown hl hloc => ?_⟩
  have hvb : some b ≠ v0.ownBlock := fun e1 => by
    rcases offb hoi with h1 | h1
    · rw [h1] at e1; cases e1
    · exact h1 e1.symm
  have hb1 : (setBlock w b (.map es1 clock1)).heap[b]? = some (.map es1 clock1) := heap_setBlock_same hb _
  have hb2 : w2.heap[b]? = some (.map es1 clock1) := (hg.block b (Nat.lt_of_lt_of_le hblt g1.size) hvb).trans hb1
  obtain ⟨es', clock', hstore, hupd⟩ := hst w2 v' hb2
  have hbr : (setBlock w2 b (.map es clock)).heap[b]? = some (.map es clock) := heap_setBlock_same hb2 _
  have gr : w.grownBy (setBlock w2 b (.map es clock)) v0.ownBlock := ⟨hg.os.trans g1.os, hg.tape.trans g1.tape, hg.output.trans g1.output, Nat.le_trans g1.size (Nat.le_trans hg.size (grown_set hb2).size), fun i hi hne => by
    by_cases hib : i = b
    · subst hib; rw [hbr, hb]
    · rw [heap_setBlock_other hb2 _ hib, hg.block i (Nat.lt_of_lt_of_le hi g1.size) hne, heap_setBlock_other hb _ hib]⟩
  obtain ⟨w3, hr3, o3, g3⟩ := hback (setBlock w2 b (.map es clock)) v' zs' gr (hown.kept (grown_set hb2) (offb hown)) hl hloc
  have hdet := upd_det K ht hb hbr F hkey hupd
  rw [hr3] at hdet
  have hw3 : w3 = setBlock w2 b (.map es' clock') := by
    have : w3 = setBlock (setBlock w2 b (.map es clock)) b (.map es' clock') := by simpa using hdet
    rw [this, set_set]
  refine ⟨w3, by rw [hstore, hw3], o3, by rw [hw3]; exact grown_set hb2, fun No hsn hno => ?_⟩
  obtain ⟨es2, clock2, hb3, hwho⟩ := stored_who K' ht hbr F (Nat.lt_of_le_of_lt hs hn) hkey hr3
  intro es3 clock3 hb3' y hy g hyg
  obtain ⟨rfl, rfl⟩ : es2 = es3 ∧ clock2 = clock3 := by rw [hb3] at hb3'; simpa using hb3'
  rcases hwho y hy with ⟨hy0, _⟩ | ⟨_, hval⟩
  · exact hsn es clock hb y hy0 g hyg
  · exact hno g (hval ▸ hyg)

/-- THE ENTRY AT THE OPERATION. -/
theorem wpList_entry {ops : Array Oper} {rest : List Oper} {o : Oper} {a : Act} {Q : Exit → Act → World → Prop} (hg : o.guard = none) (m x : Operand) (hop : o.op = Op.mapEntry t m x) {D : DataW Unit} {key : Value} {kl : Lit} (K : WideMaps.KeyLaw P k) (h : w.ownsGroups P k base e q b n D) (ht : P.underlying t = some (.map k E)) (hz : ∀ u : World, (zeroValue E).run P u = .ok (.slice none 0 0) u) (hn : n < maxLen)
    (hm : a.eval m = .map (some b)) (hx : a.eval x = key) (hkey : keyOf P k key = some kl)
    (hK : ∀ (v : Value) (zs : List Int) (st : Nat) (w1 : World), D.atKey kl .nil = rowDatum q v zs → w1.ownsInts base e q v zs → zs.length ≤ n → w.grownBy w1 (some b) → (∀ No : Nat → Prop, w.Shuns b No → ∀ g, v.ownBlock = some g → ¬ No g) →
      (∀ (w2 : World) (v' : Value) (zs' : List Int), w1.grownBy w2 v.ownBlock → w2.ownsInts base e q v' zs' → zs'.length ≤ n + 1 → (v'.ownBlock = v.ownBlock ∨ ∃ g, v'.ownBlock = some g ∧ w.heap.size ≤ g) →
        ∃ w3, (Instr.entryStore t (.map (some b)) (goInt st) v').run P w2 = .ok () w3 ∧ w3.ownsGroups P k base e q b (n + 1) (D.put kl (rowDatum q v' zs')) ∧ w2.grownBy w3 (some b) ∧ ∀ No : Nat → Prop, w.Shuns b No → (∀ g, v'.ownBlock = some g → ¬ No g) → w3.Shuns b No) →
      wpList P ops Q rest (a.put o.dst (.tuple #[v, goInt st])) w1) : wpList P ops Q (o :: rest) a w := by
  refine wpList_plain hg fun K' hK' => ?_
  obtain ⟨v, zs, st, w1, hrun, h1, h2, h3, h4, h5, h6⟩ := groups_entry K h ht hz hn hkey
  unfold Oper.wp
  simp [execOp, hop, hm, hx, hrun, Result.andThen]
  exact hK' _ _ (hK v zs st w1 h1 h2 h3 h4 h5 h6)
/-- THE STORE AT THE OPERATION. -/
theorem wpList_stored {ops : Array Oper} {rest : List Oper} {o : Oper} {a : Act} {Q : Exit → Act → World → Prop} {w3 : World} {st : Nat} {v' : Value} (hg : o.guard = none) (m x y : Operand) (hop : o.op = Op.entryStore t m x y) (hm : a.eval m = .map (some b)) (hx : a.eval x = goInt st) (hy : a.eval y = v')
    (hrun : (Instr.entryStore t (.map (some b)) (goInt st) v').run P w = .ok () w3) (hK : wpList P ops Q rest (a.put o.dst undef) w3) : wpList P ops Q (o :: rest) a w := by
  refine wpList_plain hg fun K' hK' => ?_
  unfold Oper.wp
  simp [execOp, hop, hm, hx, hy, hrun, Result.andThen]
  exact hK' _ _ hK
end
end Go.Proofs.Ytbilpicolfpoaaa.SqE
