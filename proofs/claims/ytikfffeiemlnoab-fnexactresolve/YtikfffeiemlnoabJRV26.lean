/- The list that Resolve makes: one value more; what the loops keep. -/
import Derived.Test.YtikfffeiemlnoabJRV25
namespace Go.Proofs.Ytikfffeiemlnoab.RvL
set_option maxRecDepth 8000
open Go.RowKit
open Ls Lp VkP VkR RvP ClI
open Recs
set_option linter.unusedVariables false
/-- The fields up to the k-th are resolved; the places lie in block gm. -/
structure Rn (w4 wr : World) (base : Nat) (fs : List Fld) (us : List Vlu) (ms : List Int) (gm : Nat) (k : Nat) (v : Value) : Prop where
  le : k ≤ fs.length
  ls : ∃ F P, Ow.LGr 58 5 Ow.EOVlu wr base v (outL fs us ms k) F P
  ne : v.ownBlock ≠ some gm
  mh : wr.heap[gm]? = w4.heap[gm]?
  bel : Below base w4 wr
theorem nx {w4 wr w2 w9 : World} {base gm k g9 cap9 : Nat} {fs : List Fld} {us : List Vlu} {ms : List Int} {v : Value} {F : Nat → Value} {P : Nat → Nat → Prop} {u : Vlu} {A : Option Addr} {c : Nat} (hk : k < fs.length) (LG : Ow.LGr 58 5 Ow.EOVlu wr base v (outL fs us ms k) F P) (ne : v.ownBlock ≠ some gm) (mk : wr.heap[gm]? = w4.heap[gm]?) (bel : Below base w4 wr)
    (hgm : gm < wr.heap.size) (hbase : base ≤ wr.heap.size) (hb : Below wr.heap.size wr w2) (hi : Ow.ItmsOwn w2 (seg wr.heap.size w2.heap.size) (.slice A u.items.length c) u.items) (hu : outAt fs us ms k = u)
    (hown : w9.ownsRow base 58 5 (.slice (some ⟨g9, 0, none⟩) ((outL fs us ms k).length + 1) cap9) ((outL fs us ms k).length + 1) ((List.range ((outL fs us ms k).length * 5)).map F ++ (vrow u A c).toList)) (gr : w2.grownBy w9 v.ownBlock) (hg : v.ownBlock = some g9 ∨ g9 = w2.heap.size) :
    Rn w4 w9 base fs us ms gm (k + 1) (.slice (some ⟨g9, 0, none⟩) ((outL fs us ms k).length + 1) cap9) := by
  have hs := hb.size
  refine ⟨hk, ?_, ?_, ?_, ?_⟩
  · rw [outL_next, hu]
    exact push LG hbase hb hi hown gr hg
  · intro e
    simp only [Value.ownBlock, Option.some.injEq] at e
    rcases hg with hg | hg
    · exact ne (by rw [hg, e])
    · omega
  · rw [gr.block gm (by omega) (fun e => ne e.symm), hb.block gm hgm, mk]
  · exact (bel.trans (hb.mono hbase)).grown gr (by omega) (fun x hx => (World.ownsRow.lt LG.own x hx).1)
theorem own_in {T : Type} [Inhabited T] {nf : Nat} {E : Elt T} {w : World} {S : Nat → Prop} {v : Value} {us : List T} {g o n c : Nat} (h : LAt nf E w S v us) (e : v = .slice (some ⟨g, o, none⟩) n c) (hz : 0 < us.length) : S g := by
  obtain ⟨_, A, c1, h1, h2⟩ := h
  obtain ⟨g1, o1, F, ea, hg, _⟩ := h2.resolve_left (by omega)
  rw [h1, ea] at e
  cases e
  exact hg
theorem start {w4 : World} {base gm : Nat} {fs : List Fld} {us : List Vlu} {ms : List Int} {t : Nat} (h : w4.ownsRow base 58 5 (.slice (some ⟨base, 0, none⟩) 0 0) 0 []) (hne : base ≠ gm) : Rn w4 w4 base fs us ms gm 0 (.slice (some ⟨base, 0, none⟩) 0 0) :=
  ⟨Nat.zero_le _, Ow.LGrow.empty h, fun e => hne (by simpa [Value.ownBlock] using e), rfl, Below.refl _ _⟩
end Go.Proofs.Ytikfffeiemlnoab.RvL
