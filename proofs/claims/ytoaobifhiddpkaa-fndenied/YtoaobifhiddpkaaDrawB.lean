/- Bytes that are drawn: some bytes, in memory that is new. -/
import Derived.Test.YtoaobifhiddpkaaDraw
import Derived.Deep.AppendLies
import Derived.Laws.OwnMore
import Derived.Laws.BytesArg
import Derived.Lib.ConvBytes
namespace Go.Proofs.Ytoaobifhiddpkaa.DrawB
set_option maxRecDepth 8000
open Go.RowKit
open Draw (Cur Lft Bytes)
set_option linter.unusedVariables false
theorem infoB : (Try.prog.info? 5).map (fun i => (i.zero, i.size, i.bytes)) = some (some (.int .u8 0), 1, 1) := by kernel_rfl

theorem size_any (A : Option Addr) (n c : Nat) (m : Int) (w : World) (hn : n ≤ 1048576) (hm : 2 ≤ m) (hm2 : m ≤ 1000) :
    Calls Try.prog 18 #[.slice A n c, .int .i64 m] w fun e w' => (∃ x : Int, 2 ≤ x ∧ x ≤ m ∧ e = .returned (.int .i64 x)) ∧ w = w' := by
  by_cases h : m < 2 + (n : Int) / 20
  · go_enter Try.func18, Try.ntmps18
    go_wp2
    go_ret
    exact ⟨⟨m, hm, Int.le_refl _, rfl⟩, rfl⟩
  · go_enter Try.func18, Try.ntmps18
    go_wp2
    go_ret
    exact ⟨⟨2 + (n : Int) / 20, by omega, by omega, rfl⟩, rfl⟩

/-- The cursor stays where writes and new blocks lie above the world w. -/
theorem Cur.above {w a d : World} {b : Nat} {A : Option Addr} {n c : Nat} {row : Option Nat} (h0 : Cur w b A n c) (ha : Cur a b A n c) (hg : a.grownBy d row) (hrow : ∀ k, row = some k → w.heap.size ≤ k) : Cur d b A n c := by
  have hb : d.heap[b]? = a.heap[b]? := hg.block b ha.lt (fun e => by have := hrow b e.symm; have := h0.lt; omega)
  have k := fun (j : Nat) => World.cell?_of_block (a := ⟨b, j, none⟩) hb
  have kf := fun (j : Nat) => World.frozen?_of_block (a := ⟨b, j, none⟩) hb
  obtain ⟨i, hi, hci⟩ := ha.i
  obtain ⟨x, hx⟩ := ha.h
  refine ⟨Nat.lt_of_lt_of_le ha.lt hg.size, ha.le, by rw [k]; exact ha.s, ⟨i, hi, by rw [k]; exact hci⟩, ⟨x, by rw [k]; exact hx⟩, by rw [kf]; exact ha.f1, by rw [kf]; exact ha.f2, ?_⟩
  rcases h0.by_ with h | ⟨g, o, h1, h2, h3, h4, h5⟩
  · exact .inl h
  · rcases ha.by_ with h | ⟨g', o', h1', h2', h3', h4', h5'⟩
    · exact .inl h
    · rw [h1] at h1'
      cases h1'
      refine .inr ⟨g, o, h1, h2, Nat.lt_of_lt_of_le h3' hg.size, h4, fun j hj => ?_⟩
      obtain ⟨x, hx, hc⟩ := h5' j hj
      exact ⟨x, hx, hg.cell hc (fun e => by have := hrow g e.symm; omega)⟩
theorem grown_above {w a d : World} {b : Nat} {row : Option Nat} (h : w.grownBy a (some b)) (hg : a.grownBy d row) (hrow : ∀ k, row = some k → w.heap.size ≤ k) : w.grownBy d (some b) :=
  ⟨hg.os.trans h.os, hg.tape.trans h.tape, hg.output.trans h.output, Nat.le_trans h.size hg.size, fun k hk hkb => (hg.block k (Nat.lt_of_lt_of_le hk h.size) (fun e => by have := hrow k e.symm; omega)).trans (h.block k hk hkb)⟩
/-- What a reader of the cursor that also makes memory leaves. -/
theorem Lft.above {w a d : World} {b : Nat} {A : Option Addr} {n c : Nat} {row : Option Nat} (h0 : Cur w b A n c) (h : Lft w a b A n c) (hg : a.grownBy d row) (hrow : ∀ k, row = some k → w.heap.size ≤ k) : Lft w d b A n c :=
  ⟨Cur.above h0 h.cur hg hrow, grown_above h.grown hg hrow⟩
/-- An owned row stays where the cursor's block alone is written. -/
theorem owns_lft {w a : World} {base e : Nat} {v : Value} {k : Nat} {xs : List Value} {b : Nat} (h : w.ownsRow base e 1 v k xs) (hb : b < base) (hg : w.grownBy a (some b)) : a.ownsRow base e 1 v k xs :=
  h.kept hg (by
    by_cases hv : v.ownBlock = none
    · exact .inl hv
    · obtain ⟨j, hj⟩ := Option.ne_none_iff_exists'.1 hv
      right
      intro e
      have := (h.lt j hj).1
      rw [hj] at e
      simp at e
      omega)

/-- The bytes that are gathered so far. -/
structure Gath (w wr : World) (b : Nat) (A : Option Addr) (n c : Nat) (v : Value) (k : Nat) (xs : List Int) : Prop where
  len : xs.length = k
  byt : ∀ x ∈ xs, 0 ≤ x ∧ x < 256
  own : wr.ownsRow w.heap.size 5 1 v k (Seg.B xs)
  lft : Lft w wr b A n c
theorem Gath.lft2 {w wr w2 : World} {b : Nat} {A : Option Addr} {n c : Nat} {v : Value} {k : Nat} {xs : List Int} (h0 : Cur w b A n c) (h : Gath w wr b A n c v k xs) (L : Lft wr w2 b A n c) : Gath w w2 b A n c v k xs :=
  ⟨h.len, h.byt, owns_lft h.own h0.lt L.grown, h.lft.trans L⟩
theorem Gath.push {w wr w1 : World} {b : Nat} {A : Option Addr} {n c : Nat} {v v' : Value} {k : Nat} {xs : List Int} {o : Obj} {y : Int} (h0 : Cur w b A n c) (h : Gath w wr b A n c v k xs) (hy : 0 ≤ y ∧ y < 256)
    (ho : w1.ownsRow w.heap.size 5 1 v' (k + 1) (Seg.B xs ++ [.int .u8 y])) (hg : (wr.alloc o).grownBy w1 v.ownBlock) : Gath w w1 b A n c v' (k + 1) (xs ++ [y]) :=
  ⟨by simp [h.len], fun x hx => by
      rcases List.mem_append.1 hx with hx | hx
      · exact h.byt x hx
      · simp at hx; subst hx; exact hy, by simpa [Seg.B] using ho, Lft.above h0 (Lft.above h0 h.lft (World.grownBy_alloc wr o none) (fun k hk => by cases hk)) hg (fun k hk => (h.own.lt k hk).1)⟩

theorem u8_bd (u : UInt8) : 0 ≤ (u.toNat : Int) ∧ (u.toNat : Int) < 256 := by
  have := u.toNat_lt
  omega

end Go.Proofs.Ytoaobifhiddpkaa.DrawB
