/- A run of bytes in memory, and what keeps it; The cursor over the bytes of a draw: what each of its readers leaves. -/
import Derived.WalkKit
import Derived.Laws.OwnMore
import Derived.Deep.Draws
import Derived.OpenShut
import Derived.RegionTactic
import Derived.Maps.AppendAt
import Derived.Outline
import Derived.Test.YtkohhcjpjloaaaaRows
namespace Go.Proofs.Ytkohhcjpjloaaaa.Seg
set_option maxRecDepth 8000
open Go.RowKit
def B (l : List Int) : List Value := l.map (Value.int .u8)
theorem hid {p : Prop} (h : p) : Hid p := h
theorem ret_int {k : IntKind} {a b : Int} (h : a = b) : Ending.returned (.int k a) = .returned (.int k b) := by rw [h]
theorem ret_bool {a b : Bool} (h : a = b) : Ending.returned (.bool a) = .returned (.bool b) := by rw [h]

/-- The value is a slice over just these bytes. -/
def Seg (w : World) (v : Value) (l : List Int) : Prop :=
  l.length ≤ 140737488355328 ∧ ((∃ A c, v = .slice A 0 c ∧ l = []) ∨ ∃ g o cap, v = .slice (some ⟨g, o, none⟩) l.length cap ∧ l.length ≤ cap ∧ cap ≤ maxLen ∧ ∀ i, i < l.length → w.cell? ⟨g, o + i, none⟩ = some (.int .u8 (l.getD i 0)))

/-- The value is a slice of its own block, over just these bytes. -/
def Own (w : World) (base e : Nat) (v : Value) (l : List Int) : Prop :=
  l.length ≤ 140737488355328 ∧ ∃ g cap, v = .slice (some ⟨g, 0, none⟩) l.length cap ∧ w.ownsRow base e 1 (.slice (some ⟨g, 0, none⟩) l.length cap) l.length (B l)

theorem owns_below {w w' : World} {base e size : Nat} {v : Value} {n : Nat} {xs : List Value} (h : w.ownsRow base e size v n xs) (hb : Below w.heap.size w w') : w'.ownsRow base e size v n xs := by
  refine ⟨h.1, ?_⟩
  rcases h.2 with hn | ⟨g, cap, cur, rfl, hbs, hgg, rest⟩
  · exact .inl hn
  · exact .inr ⟨g, cap, cur, rfl, hbs, by rw [hb.block g (Array.getElem?_eq_some_iff.1 hgg).1]; exact hgg, rest⟩
theorem Own.below {w w' : World} {base e : Nat} {v : Value} {l : List Int} (h : Own w base e v l) (hb : Below w.heap.size w w') : Own w' base e v l := by
  obtain ⟨h1, g, cap, h2, h3⟩ := h
  exact ⟨h1, g, cap, h2, owns_below h3 hb⟩
theorem Own.drewN {w : World} {base e : Nat} {v : Value} {l : List Int} (h : Own w base e v l) (n : Nat) : Own (w.drewN n) base e v l := h
theorem owns_cell {w : World} {base e g n cap : Nat} {l : List Int} (h : w.ownsRow base e 1 (.slice (some ⟨g, 0, none⟩) n cap) n (B l)) (i : Nat) (hi : i < n) : w.cell? ⟨g, i, none⟩ = some (.int .u8 (l.getD i 0)) := by
  have hl : l.length = n := by have := h.1; simpa [B] using this
  rw [h.cellAt i (by omega)]
  simp [B, hl, hi]
theorem owns_cap {w : World} {base e g n cap : Nat} {l : List Value} (h : w.ownsRow base e 1 (.slice (some ⟨g, 0, none⟩) n cap) n l) : n ≤ cap ∧ cap ≤ maxLen ∧ base ≤ g ∧ g < w.heap.size := by
  rcases h.2 with ⟨h', _⟩ | ⟨g', cap', cur, h', hb, hg, hnc, hcm, hcs, htake⟩
  · simp at h'
  · simp only [Value.slice.injEq, Option.some.injEq, Addr.mk.injEq, and_true, true_and] at h'
    obtain ⟨rfl, rfl⟩ := h'
    exact ⟨hnc, hcm, hb, (Array.getElem?_eq_some_iff.1 hg).1⟩
theorem Own.seg {w : World} {base e : Nat} {v : Value} {l : List Int} (h : Own w base e v l) : Seg w v l := by
  obtain ⟨h1, g, cap, h2, h3⟩ := h
  have hc := owns_cap h3
  exact ⟨h1, .inr ⟨g, 0, cap, h2, hc.1, hc.2.1, fun i hi => by rw [Nat.zero_add]; exact owns_cell h3 i hi⟩⟩
theorem Seg.below {w w' : World} {B : Nat} {v : Value} {l : List Int} (h : Seg w v l) (hb : Below B w w') (hv : ∀ g, v.ownBlock = some g → g < B) : Seg w' v l := by
  obtain ⟨h1, h⟩ := h
  refine ⟨h1, ?_⟩
  rcases h with ⟨A, c, rfl, rfl⟩ | ⟨g, o, cap, rfl, h2, h3, h4⟩
  · exact .inl ⟨A, c, rfl, rfl⟩
  · exact .inr ⟨g, o, cap, rfl, h2, h3, fun i hi => by rw [hb.cell (p := ⟨g, o + i, none⟩) (hv g rfl)]; exact h4 i hi⟩
theorem Seg.drewN {w : World} {v : Value} {l : List Int} (h : Seg w v l) (n : Nat) : Seg (w.drewN n) v l := h

/-- The marks that a slice of n bytes bears from k on. -/
def marks (k : Int) (n : Nat) : List Int := (List.range n).map fun (i : Nat) => (k + (i : Int)) % 256
theorem marks_len (k : Int) (n : Nat) : (marks k n).length = n := by simp [marks]
theorem marks_get (k : Int) (n i : Nat) (h : i < n) : (marks k n).getD i 0 = (k + (i : Int)) % 256 := by simp [marks, h]
theorem marks_succ (k : Int) (n : Nat) : marks k (n + 1) = marks k n ++ [(k + (n : Int)) % 256] := by simp [marks, List.range_succ]
theorem marks_set (k : Int) (j : Nat) (l : List Int) (h : j < l.length) : (marks k j ++ l.drop j).set j ((k + (j : Int)) % 256) = marks k (j + 1) ++ l.drop (j + 1) := by
  rw [List.set_append_right _ _ (by simp [marks_len]), marks_len, Nat.sub_self, List.drop_eq_getElem_cons h, List.set_cons_zero, marks_succ]
  simp

theorem eq_cut {l m : List Int} (h : l.length = m.length) : decide (l = m) = decide (∀ i, i < l.length → l.getD i 0 = m.getD i 0) := by
  rw [decide_eq_decide]
  constructor
  · rintro rfl i _; rfl
  · intro hh
    refine List.ext_getElem h fun i h1 h2 => ?_
    have := hh i h1
    simpa [h1, h2] using this
theorem eq_len {l m : List Int} (h : ¬ l.length = m.length) : decide (l = m) = false := by
  simp only [decide_eq_false_iff_not]; rintro rfl; exact h rfl
theorem eq_at {l m : List Int} {i : Nat} (h : ¬ l.getD i 0 = m.getD i 0) : decide (l = m) = false := by
  simp only [decide_eq_false_iff_not]; rintro rfl; exact h rfl
/-- Each is a byte. -/
def Byt (l : List Int) : Prop := ∀ i, 0 ≤ l.getD i 0 ∧ l.getD i 0 < 256
theorem byt_of {l : List Int} (h : ∀ n ∈ l, 0 ≤ n ∧ n < 256) : Byt l := fun i => by
  by_cases hi : i < l.length
  · have := h l[i] (List.getElem_mem hi)
    simpa [hi] using this
  · simp [List.getElem?_eq_none (Nat.le_of_not_lt hi)]

/-- What the frame tells of a slice that came in, as a run of bytes. -/
theorem row_seg (w : World) (a : Option Addr) (len cap : Nat) (zs : List Int)
    (h : (a = none ∧ len = 0 ∧ cap = 0 ∧ zs = []) ∨ ∃ x, a = some x ∧ len ≤ cap ∧ cap ≤ maxLen ∧ zs.length = cap ∧ (∀ i, i < zs.length → w.cell? (x.add i) = some (.int .u8 (zs.getD i 0))) ∧ ∀ n ∈ zs, (Lit.int .u8 n).wf = true)
    (hl : len ≤ 140737488355328) : ∃ l : List Int, l.length = len ∧ Seg w (.slice a len cap) l ∧ Byt l ∧ (len = 0 ∨ ∀ g, (Value.slice a len cap).ownBlock = some g → g < w.heap.size) := by
  rcases h with ⟨rfl, rfl, rfl, rfl⟩ | ⟨x, rfl, h1, h2, h3, h4, h5⟩
  · exact ⟨[], rfl, ⟨by simp, .inl ⟨none, 0, rfl, rfl⟩⟩, fun i => by simp, .inl rfl⟩
  · by_cases hz : len = 0
    · subst hz
      exact ⟨[], rfl, ⟨by simp, .inl ⟨some x, cap, rfl, rfl⟩⟩, fun i => by simp, .inl rfl⟩
    · have hlen : (zs.take len).length = len := by simp; omega
      obtain ⟨b, off, spot⟩ := x
      have hc := h4 0 (by omega)
      have hspot : spot = none := by simpa [Addr.add] using World.cell?_spot hc
      subst hspot
      have hlt : b < w.heap.size := by have := World.block_lt_of_cell? w _ hc; simpa [Addr.add] using this
      refine ⟨zs.take len, hlen, ⟨by omega, .inr ⟨b, off, cap, by rw [hlen], by omega, h2, fun i hi => ?_⟩⟩, byt_of fun n hn => ?_, .inr fun g hg => by simp [Value.ownBlock] at hg; omega⟩
      · have := h4 i (by omega)
        rw [show (⟨b, off, none⟩ : Addr).add i = ⟨b, off + i, none⟩ by simp [Addr.add]] at this
        rw [this]
        have hi2 : i < len := by omega
        simp [List.getD_eq_getElem?_getD, hi2]
      · have := h5 n (List.mem_of_mem_take hn)
        have := bounds_u8 this
        omega
end Go.Proofs.Ytkohhcjpjloaaaa.Seg
namespace Go.Proofs.Ytkohhcjpjloaaaa.Draw
set_option maxRecDepth 8000
open Go.RowKit
set_option linter.unusedVariables false

/-- The bytes that a slice leads to are there, in another block than b. -/
def Bytes (w : World) (b : Nat) (A : Option Addr) (n c : Nat) : Prop :=
  n = 0 ∨ ∃ g o, A = some ⟨g, o, none⟩ ∧ g ≠ b ∧ g < w.heap.size ∧ n ≤ c ∧ ∀ j, j < n → ∃ x : Nat, x < 256 ∧ w.cell? ⟨g, o + j, none⟩ = some (.int .u8 x)
/-- The cursor stands in block b. -/
structure Cur (w : World) (b : Nat) (A : Option Addr) (n c : Nat) : Prop where
  lt : b < w.heap.size
  le : n ≤ 1048576
  s : w.cell? ⟨b, 0, none⟩ = some (.slice A n c)
  i : ∃ i : Nat, i ≤ n ∧ w.cell? ⟨b, 1, none⟩ = some (.int .i64 i)
  h : ∃ h : Int, w.cell? ⟨b, 2, none⟩ = some (.int .i64 h)
  f1 : w.frozen? ⟨b, 1, none⟩ = false
  f2 : w.frozen? ⟨b, 2, none⟩ = false
  by_ : Bytes w b A n c

theorem and255 (y : Int) : 0 ≤ bits .and .i64 y 255 ∧ bits .and .i64 y 255 ≤ 255 := by
  simp only [bits]
  have h : (BitVec.ofInt IntKind.i64.bits y &&& BitVec.ofInt IntKind.i64.bits 255).toNat ≤ 255 := by
    rw [BitVec.toNat_and]
    exact Nat.le_trans Nat.and_le_right (by decide)
  generalize (BitVec.ofInt IntKind.i64.bits y &&& BitVec.ofInt IntKind.i64.bits 255).toNat = k at h
  rw [IntKind.wrap_i64]
  omega

theorem Bytes.grown {w w' : World} {b : Nat} {A : Option Addr} {n c : Nat} (h : Bytes w b A n c) (hg : w.grownBy w' (some b)) : Bytes w' b A n c := by
  rcases h with h | ⟨g, o, h1, h2, h3, h4, h5⟩
  · exact .inl h
  · refine .inr ⟨g, o, h1, h2, Nat.lt_of_lt_of_le h3 hg.size, h4, fun j hj => ?_⟩
    obtain ⟨x, hx, hc⟩ := h5 j hj
    exact ⟨x, hx, hg.cell hc (by simpa using h2)⟩
theorem grown_setCell (w : World) (b j : Nat) (v : Value) : w.grownBy (w.setCell ⟨b, j, none⟩ v) (some b) :=
  ⟨rfl, rfl, rfl, by simp, fun k _ hk => heap_setCell_other w ⟨b, j, none⟩ k v (fun e => hk (by simp [e]))⟩
theorem grown_drew {w w' : World} {r : Option Nat} (h : w.grownBy w' r) : w.grownBy w'.drew r := ⟨h.os, h.tape, h.output, h.size, h.block⟩

theorem Cur.drew {w : World} {b : Nat} {A : Option Addr} {n c : Nat} (h : Cur w b A n c) : Cur w.drew b A n c := ⟨h.lt, h.le, h.s, h.i, h.h, h.f1, h.f2, h.by_⟩
theorem Cur.set2 {w : World} {b : Nat} {A : Option Addr} {n c : Nat} (h : Cur w b A n c) (v : Int) : Cur (w.setCell ⟨b, 2, none⟩ (.int .i64 v)) b A n c := by
  obtain ⟨i, hi, hci⟩ := h.i
  obtain ⟨x, hx⟩ := h.h
  refine ⟨by simpa using h.lt, h.le, ?_, ⟨i, hi, ?_⟩, ⟨v, ?_⟩, ?_, ?_, h.by_.grown (grown_setCell w b 2 _)⟩
  · rw [World.cell?_setCell_other _ _ _ _ (by simp)]; exact h.s
  · rw [World.cell?_setCell_other _ _ _ _ (by simp)]; exact hci
  · exact World.cell?_setCell_same _ _ _ hx
  · rw [World.frozen?_setCell]; exact h.f1
  · rw [World.frozen?_setCell]; exact h.f2
theorem Cur.set1 {w : World} {b : Nat} {A : Option Addr} {n c : Nat} (h : Cur w b A n c) (v : Int) (k : Nat) (hk : k ≤ n) (hv : v = (k : Int)) : Cur (w.setCell ⟨b, 1, none⟩ (.int .i64 v)) b A n c := by
  obtain ⟨i, hi, hci⟩ := h.i
  obtain ⟨x, hx⟩ := h.h
  subst hv
  refine ⟨by simpa using h.lt, h.le, ?_, ⟨k, hk, ?_⟩, ⟨x, ?_⟩, ?_, ?_, h.by_.grown (grown_setCell w b 1 _)⟩
  · rw [World.cell?_setCell_other _ _ _ _ (by simp)]; exact h.s
  · exact World.cell?_setCell_same _ _ _ hci
  · rw [World.cell?_setCell_other _ _ _ _ (by simp)]; exact hx
  · rw [World.frozen?_setCell]; exact h.f1
  · rw [World.frozen?_setCell]; exact h.f2
theorem ret_byte (y : Int) : ∃ x : Nat, x < 256 ∧ Ending.returned (.int .i64 (bits .and .i64 y 255)) = .returned (.int .i64 (x : Int)) := by
  have := and255 y
  exact ⟨(bits .and .i64 y 255).toNat, by omega, by rw [Int.toNat_of_nonneg this.1]⟩

set_option maxRecDepth 4000 in
set_option maxHeartbeats 800000 in
theorem byte_any (b : Nat) (A : Option Addr) (n c : Nat) (w : World) (hc : Cur w b A n c) :
    Calls Try.prog 24 #[.pointer (some ⟨b, 0, none⟩)] w fun e w' => (∃ x : Nat, x < 256 ∧ e = .returned (.int .i64 x)) ∧ Cur w' b A n c ∧ w.grownBy w' (some b) := by
  obtain ⟨i, hi, c1⟩ := hc.i
  obtain ⟨h, c2⟩ := hc.h
  have c0 := hc.s
  have f1 := hc.f1
  have f2 := hc.f2
  have HC := Seg.hid hc
  have hn := hc.le
  clear hc
  by_cases hlt : i < n
  · obtain ⟨g, o, rfl, hgb, hgl, hnc, hby⟩ := HC.out.by_.resolve_left (by omega)
    obtain ⟨x, hx, hcx⟩ := hby i hlt
    have hne : ¬ b = g := fun e => hgb e.symm
    clear hby
    go_enter Try.func24, Try.ntmps24
    go_wp2
    go_region
    go_wp2
    go_region
    go_wp2
    go_region
    go_wp2
    go_ret
    exact ⟨ret_byte _, (((((HC.out.set2 _).drew).drew).drew).set1 _ (i + 1) (by omega) (by omega)), (grown_drew (grown_drew (grown_drew (grown_setCell w b 2 _)))).trans (grown_setCell _ b 1 _)⟩
  · go_enter Try.func24, Try.ntmps24
    go_wp2
    go_region
    go_wp2
    go_region
    go_wp2
    go_ret
    exact ⟨ret_byte _, ((HC.out.set2 _).drew).drew, grown_drew (grown_drew (grown_setCell w b 2 _))⟩

/-- What a reader of the cursor leaves: the cursor, and all else as it was. -/
structure Lft (w w' : World) (b : Nat) (A : Option Addr) (n c : Nat) : Prop where
  cur : Cur w' b A n c
  grown : w.grownBy w' (some b)
theorem Lft.trans {w w1 w2 : World} {b : Nat} {A : Option Addr} {n c : Nat} (h : Lft w w1 b A n c) (k : Lft w1 w2 b A n c) : Lft w w2 b A n c := ⟨k.cur, h.grown.trans k.grown⟩
theorem Lft.refl {w : World} {b : Nat} {A : Option Addr} {n c : Nat} (h : Cur w b A n c) : Lft w w b A n c := ⟨h, World.grownBy.refl _ _⟩

theorem byte_left (b : Nat) (A : Option Addr) (n c : Nat) (w : World) (hc : Cur w b A n c) :
    Calls Try.prog 24 #[.pointer (some ⟨b, 0, none⟩)] w fun e w' => (∃ x : Nat, x < 256 ∧ e = .returned (.int .i64 x)) ∧ Lft w w' b A n c :=
  (byte_any b A n c w hc).mono fun e w' h => ⟨h.1, h.2.1, h.2.2⟩

set_option maxHeartbeats 800000 in
theorem below_any (b : Nat) (A : Option Addr) (n c : Nat) (m : Int) (w : World) (hc : Cur w b A n c) (hm : 0 < m) (hm2 : m ≤ 1000000) :
    Calls Try.prog 12 #[.pointer (some ⟨b, 0, none⟩), .int .i64 m] w fun e w' => (∃ x : Int, 0 ≤ x ∧ x < m ∧ e = .returned (.int .i64 x)) ∧ Lft w w' b A n c := by
  have HC := Seg.hid hc
  clear hc
  by_cases h256 : m ≤ 256
  · go_enter Try.func12, Try.ntmps12
    go_wp2_with fail
    refine (byte_left b A n c _ HC.out).mono ?_
    rintro e w1 ⟨⟨x, hx, rfl⟩, L1⟩
    go_wp2_with fail
    go_ret
    exact ⟨⟨(x : Int) % m, Int.emod_nonneg _ (by omega), Int.emod_lt_of_pos _ hm, rfl⟩, L1⟩
  · go_enter Try.func12, Try.ntmps12
    go_wp2_with fail
    refine (byte_left b A n c _ HC.out).mono ?_
    rintro e w1 ⟨⟨x, hx, rfl⟩, L1⟩
    go_wp2_with fail
    refine (byte_left b A n c _ L1.cur).mono ?_
    rintro e w2 ⟨⟨y, hy, rfl⟩, L2⟩
    go_wp2_with fail
    refine (byte_left b A n c _ L2.cur).mono ?_
    rintro e w3 ⟨⟨z, hz, rfl⟩, L3⟩
    go_wp2_with fail
    refine (byte_left b A n c _ L3.cur).mono ?_
    rintro e w4 ⟨⟨u, hu, rfl⟩, L4⟩
    go_wp2_with fail
    go_ret
    exact ⟨⟨_, Int.emod_nonneg _ (by omega), Int.emod_lt_of_pos _ hm, rfl⟩, ((L1.trans L2).trans L3).trans L4⟩

set_option maxHeartbeats 800000 in
theorem below_none (b : Nat) (A : Option Addr) (n c : Nat) (m : Int) (w : World) (hc : Cur w b A n c) (hm : m ≤ 0) :
    Calls Try.prog 12 #[.pointer (some ⟨b, 0, none⟩), .int .i64 m] w fun e w' => e = .returned (.int .i64 0) ∧ Lft w w' b A n c := by
  have HC := Seg.hid hc
  clear hc
  go_enter Try.func12, Try.ntmps12
  go_wp2_with fail
  go_ret
  exact ⟨rfl, Lft.refl HC.out⟩

theorem once_any (b : Nat) (A : Option Addr) (n c : Nat) (m : Int) (w : World) (hc : Cur w b A n c) (hm : 0 < m) (hm2 : m ≤ 1000000) :
    Calls Try.prog 10 #[.pointer (some ⟨b, 0, none⟩), .int .i64 m] w fun e w' => (∃ x : Bool, e = .returned (.bool x)) ∧ Lft w w' b A n c := by
  have HC := Seg.hid hc
  clear hc
  go_enter Try.func10, Try.ntmps10
  go_wp2_with fail
  refine (below_any b A n c m _ HC.out hm hm2).mono ?_
  rintro e w1 ⟨⟨x, hx1, hx2, rfl⟩, L1⟩
  go_wp2_with fail
  go_ret
  exact ⟨⟨_, rfl⟩, L1⟩

theorem Cur.alloc {w : World} {b : Nat} {A : Option Addr} {n c : Nat} (h : Cur w b A n c) (o : Obj) : Cur (w.alloc o) b A n c := by
  have hg := World.grownBy_alloc w o (some b)
  have k := fun (j : Nat) => World.cell?_of_block (a := ⟨b, j, none⟩) (heap_alloc_old w o h.lt)
  have kf := fun (j : Nat) => World.frozen?_of_block (a := ⟨b, j, none⟩) (heap_alloc_old w o h.lt)
  obtain ⟨i, hi, hci⟩ := h.i
  obtain ⟨x, hx⟩ := h.h
  exact ⟨Nat.lt_of_lt_of_le h.lt hg.size, h.le, by rw [k]; exact h.s, ⟨i, hi, by rw [k]; exact hci⟩, ⟨x, by rw [k]; exact hx⟩, by rw [kf]; exact h.f1, by rw [kf]; exact h.f2, h.by_.grown hg⟩

set_option maxRecDepth 20000 in
set_option maxHeartbeats 800000 in
theorem new_any (A : Option Addr) (n c : Nat) (w : World) (hn : n ≤ 1048576) (hb : Bytes w w.heap.size A n c) :
    Calls Try.prog 8 #[.slice A n c] w fun e w' => ∃ h : Int, e = .returned (.pointer (some ⟨w.heap.size, 0, none⟩)) ∧ w' = w.alloc (.cells #[.slice A n c, .int .i64 0, .int .i64 h] 51) := by
  rcases hb with rfl | ⟨g, o, rfl, hgb, hgl, hnc, hby⟩
  · go_enter Try.func8, Try.ntmps8
    go_wp2
    go_loop [3, 4] (fun h i => i = .int .i64 0 ∧ ∃ v : Int, h = .int .i64 v) (fun _ _ => 0)
    case atStart => exact ⟨rfl, _, rfl⟩
    case round =>
      obtain ⟨rfl, v, rfl⟩ := hrel
      go_wp2
      go_ret
      exact ⟨rfl, v, rfl⟩
  · have HB := Seg.hid hby
    clear hby
    go_enter Try.func8, Try.ntmps8
    go_wp2
    go_loop [3, 4] (fun h i => ∃ k : Nat, k ≤ n ∧ i = .int .i64 k ∧ ∃ v : Int, h = .int .i64 v) (fun _ i => n - (intOf i).toNat)
    case atStart => exact ⟨0, Nat.zero_le _, rfl, _, rfl⟩
    case round =>
      obtain ⟨k, hk, rfl, v, rfl⟩ := hrel
      by_cases hlt : k < n
      · obtain ⟨x, hx, hcx⟩ := HB.out k hlt
        by_cases h4 : k < 4000
        · go_wp2
          go_round
          case rel => exact ⟨k + 1, by omega, by go_num, _, rfl⟩
          case measure => simp [intOf]; omega
        · go_wp2
          go_ret
          exact ⟨rfl, v, rfl⟩
      · go_wp2
        go_ret
        exact ⟨rfl, v, rfl⟩

theorem cur_new {A : Option Addr} {n c : Nat} {w : World} (hn : n ≤ 1048576) (hb : Bytes w w.heap.size A n c) (h : Int) (t : TypeId) :
    Cur (w.alloc (.cells #[.slice A n c, .int .i64 0, .int .i64 h] t)) w.heap.size A n c := by
  have e := heap_alloc_new w (.cells #[.slice A n c, .int .i64 0, .int .i64 h] t)
  have k := fun (j : Nat) => cell_of_row _ w.heap.size j _ _ _ e
  exact ⟨by simp, hn, by rw [k]; rfl, ⟨0, by omega, by rw [k]; rfl⟩, ⟨h, by rw [k]; rfl⟩, frozen_of_row _ _ _ _ _ e, frozen_of_row _ _ _ _ _ e, hb.grown (World.grownBy_alloc _ _ _)⟩
end Go.Proofs.Ytkohhcjpjloaaaa.Draw
