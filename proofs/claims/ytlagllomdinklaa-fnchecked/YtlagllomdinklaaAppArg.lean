/- One byte appended to a row that is not the call's own: in place or in a new row, told in one form. -/
import Derived.ArgAppend
import Derived.Deep.AppendLies
import Derived.Maps.AppendAt
import Derived.Test.YtlagllomdinklaaSeg
namespace Go.Proofs.Ytlagllomdinklaa.AppArg
/-- What is behind the append, wherever the row lies now. -/
structure App (w w' : World) (b g : Nat) (xs : List Value) : Prop where
  cell : ∀ j u, xs[j]? = some u → w'.cell? ⟨g, j, none⟩ = some u
  lt : g < w'.heap.size
  at_ : g = b ∨ w.heap.size ≤ g
  grown : w.grownBy w' (some b)
theorem app_room {w : World} {b n : Nat} {olds : List Value} {y : Value} (hlo : olds.length = n) (holds : ∀ j u, olds[j]? = some u → w.cell? ⟨b, j, none⟩ = some u) (hs : (w.cell? ⟨b, n, none⟩).isSome = true) : App w (w.setCell ⟨b, n, none⟩ y) b b (olds ++ [y]) := by
  obtain ⟨z, hz⟩ := Option.isSome_iff_exists.1 hs
  refine ⟨fun j u hj => ?_, ?_, .inl rfl, ⟨rfl, rfl, rfl, by simp, fun k _ hk => heap_setCell_other w ⟨b, n, none⟩ k y (fun e => hk (by simp [e]))⟩⟩
  · by_cases e : j = n
    · subst e
      rw [List.getElem?_append_right (by omega), hlo, Nat.sub_self] at hj
      simp at hj
      subst hj
      exact World.cell?_setCell_same _ _ _ hz
    · have hlt : j < olds.length := by
        have := (List.getElem?_eq_some_iff.1 hj).1
        simp at this
        omega
      rw [List.getElem?_append_left hlt] at hj
      rw [World.cell?_setCell_other _ _ _ _ (by simp <;> omega)]
      exact holds j u hj
  · have := World.block_lt_of_cell? w _ hz
    simpa using this
theorem app_grow {w w' : World} {b n e g cap : Nat} {xs : List Value} (ho : w'.ownsRow w.heap.size e 1 (.slice (some ⟨g, 0, none⟩) n cap) n xs) (hg : w.grownBy w' none) : App w w' b g xs := by
  have hc := Seg.owns_cap ho
  refine ⟨fun j u hj => ?_, hc.2.2.2, .inr hc.2.2.1, ⟨hg.os, hg.tape, hg.output, hg.size, fun k hk _ => hg.block k hk (by simp)⟩⟩
  have hl : xs.length = n * 1 := ho.1
  have hlt := (List.getElem?_eq_some_iff.1 hj).1
  rw [ho.cellAt j (by omega)]
  exact hj

theorem wpList_append_any {P : Program} (w : World) {ops : Array Oper} {rest : List Oper} {o : Oper} {a : Act} {Q : Exit → Act → World → Prop}
    (hg : o.guard = none) (s x : Operand) (t : TypeId) (hop : o.op = Op.call { callee := Callee.builtin Builtin.append, args := #[s, x], argTypes := #[t, t] })
    (e : TypeId) (i : TypeInfo) (z : Value) (h1 : P.underlying t = some (.slice e)) (h2 : P.info? e = some i) (h3 : i.zero = some z) (h4 : i.size = 1) (h5 : i.bytes = 1) (h6 : z.cells.size = 1)
    (b n cap : Nat) (olds : List Value) (hs : a.eval s = .slice (some ⟨b, 0, none⟩) n cap) (hlo : olds.length = n) (holds : ∀ j u, olds[j]? = some u → w.cell? ⟨b, j, none⟩ = some u)
    (ad : Addr) (c : Nat) (y : Value) (hx : a.eval x = .slice (some ad) 1 c) (hc : ∀ j u, [y][j]? = some u → w.cell? (ad.add j) = some u) (hy : y.oneCell' = true)
    (hspare : n + 1 ≤ cap → (w.cell? ⟨b, n, none⟩).isSome = true ∧ w.frozen? ⟨b, n, none⟩ = false) (b2 : n + 1 ≤ 140737488355328)
    (h : ∀ g c' w', n + 1 ≤ c' → App w w' b g (olds ++ [y]) → wpList P ops Q rest (a.put o.dst (.slice (some ⟨g, 0, none⟩) (n + 1) c')) w') : wpList P ops Q (o :: rest) a w := by
  refine wpList_append_arg w hg s x t hop e i z 1 1 h1 h2 h3 h4 h5 h6 (by decide) b 0 n cap olds hs (by omega) (fun j u hj => by rw [Nat.zero_add]; exact holds j u hj) ad 1 c [y] hx rfl hc (by simpa using hy)
    (fun hr j hj => by simp at hj; subst hj; simpa using hspare hr) (by unfold maxLen; omega) (by omega) (fun hr => ?_) (fun hr v' w' ho hgr => ?_)
  · have := h b cap (w.setCell ⟨b, n, none⟩ y) hr (app_room hlo holds (hspare hr).1)
    simpa [World.setCells] using this
  · obtain ⟨g, cap', hv⟩ : ∃ g cap', v' = .slice (some ⟨g, 0, none⟩) (n + 1) cap' := by
      rcases ho.2 with ⟨_, h0⟩ | ⟨g, cap', cur, hv, _⟩
      · omega
      · exact ⟨g, cap', hv⟩
    subst hv
    exact h g cap' w' (Seg.owns_cap ho).1 (app_grow ho hgr)
end Go.Proofs.Ytlagllomdinklaa.AppArg
