/- The check of bytes, bit by bit and four bits at a time: the same; A run of bytes in memory, and what keeps it. -/
import Derived.Laws.BitsLemmas
import Derived.WalkKit
import Derived.Laws.OwnMore
import Derived.Deep.Draws
import Derived.OpenShut
namespace Go.Proofs.Ytdhicmbfknagjaa.Crc
set_option maxRecDepth 8000

def poly : Nat := 3988292384
def step (c : Nat) : Nat := if c % 2 = 1 then c / 2 ^^^ poly else c / 2
def steps : Nat → Nat → Nat
  | 0, c => c
  | k + 1, c => step (steps k c)
theorem step_odd {c : Nat} (h : c % 2 = 1) : step c = c / 2 ^^^ poly := by rw [step, if_pos h]
theorem step_even {c : Nat} (h : ¬ c % 2 = 1) : step c = c / 2 := by rw [step, if_neg h]
theorem poly_lt : poly < 4294967296 := by decide
theorem xor_lt {a b : Nat} (ha : a < 4294967296) (hb : b < 4294967296) : a ^^^ b < 4294967296 := Nat.xor_lt_two_pow (n := 32) ha hb
theorem step_lt {c : Nat} (h : c < 4294967296) : step c < 4294967296 := by
  unfold step
  split
  · exact xor_lt (by omega) poly_lt
  · omega
theorem steps_lt {c : Nat} (h : c < 4294967296) : ∀ k, steps k c < 4294967296
  | 0 => h
  | k + 1 => step_lt (steps_lt h k)
theorem step_xor (a b : Nat) : step (a ^^^ b) = step a ^^^ step b := by
  have hm : (a ^^^ b) % 2 = a % 2 ^^^ b % 2 := Nat.xor_mod_two_pow (n := 1)
  unfold step
  rw [Nat.xor_div_two, hm]
  have ha := Nat.mod_two_eq_zero_or_one a
  have hb := Nat.mod_two_eq_zero_or_one b
  rcases ha with ha | ha <;> rcases hb with hb | hb <;> simp [ha, hb]
  · rw [Nat.xor_assoc]
  · rw [Nat.xor_assoc, Nat.xor_assoc, Nat.xor_comm poly]
  · rw [Nat.xor_assoc, Nat.xor_comm poly, Nat.xor_assoc, Nat.xor_self, Nat.xor_zero]
theorem steps_xor (a b : Nat) : ∀ k, steps k (a ^^^ b) = steps k a ^^^ steps k b
  | 0 => rfl
  | k + 1 => by rw [steps, steps_xor a b k, step_xor]; rfl
theorem step_two (y : Nat) : step (2 * y) = y := by rw [step_even (by omega)]; omega
theorem steps_16 (y : Nat) : steps 4 (16 * y) = y := by
  show step (step (step (step (16 * y)))) = y
  rw [show 16 * y = 2 * (2 * (2 * (2 * y))) by omega, step_two, step_two, step_two, step_two]
theorem parts (z : Nat) : z = 16 * (z / 16) ^^^ z % 16 := by
  apply Nat.eq_of_testBit_eq
  intro i
  rw [Nat.testBit_xor, show 16 * (z / 16) = z / 2 ^ 4 * 2 ^ 4 by omega, Nat.testBit_mul_two_pow, show z % 16 = z % 2 ^ 4 by rfl, Nat.testBit_mod_two_pow, Nat.testBit_div_two_pow]
  by_cases h : i < 4
  · simp [h, Nat.not_le.2 h]
  · simp [h, Nat.le_of_not_lt h]
/-- Four steps at once, by the table's place. -/
theorem nib (z : Nat) : steps 4 z = z / 16 ^^^ steps 4 (z % 16) := by
  have := steps_xor (16 * (z / 16)) (z % 16) 4
  rw [← parts z, steps_16] at this
  exact this
theorem steps_add (j : Nat) : ∀ k c, steps (k + j) c = steps k (steps j c)
  | 0, c => by simp [steps]
  | k + 1, c => by rw [show k + 1 + j = (k + j) + 1 by omega, steps, steps_add j k c]; rfl

def upd (c : Nat) (x : Int) : Nat := steps 8 (c ^^^ x.toNat)
def crc (l : List Int) : Nat := l.foldl upd 4294967295
def check (l : List Int) : Int := ((crc l ^^^ 4294967295 : Nat) : Int)
theorem upd_two (c : Nat) (x : Int) : upd c x = (((c ^^^ x.toNat) / 16 ^^^ steps 4 ((c ^^^ x.toNat) % 16)) / 16 ^^^ steps 4 (((c ^^^ x.toNat) / 16 ^^^ steps 4 ((c ^^^ x.toNat) % 16)) % 16)) := by
  rw [upd, show (8 : Nat) = 4 + 4 by rfl, steps_add, nib (steps 4 _), nib (c ^^^ x.toNat)]
theorem upd_lt {c : Nat} {x : Int} (h : c < 4294967296) (hx : x < 256) : upd c x < 4294967296 := steps_lt (xor_lt h (by omega)) 8
theorem foldl_lt : ∀ (l : List Int) (c : Nat), c < 4294967296 → (∀ x ∈ l, x < 256) → l.foldl upd c < 4294967296
  | [], c, h, _ => h
  | x :: r, c, h, hx => foldl_lt r _ (upd_lt h (hx x (by simp))) (fun y hy => hx y (by simp [hy]))
theorem u32_xor (a b : Nat) (ha : a < 4294967296) (hb : b < 4294967296) : bits .xor .u32 (a : Int) (b : Int) = ((a ^^^ b : Nat) : Int) := by
  have h := xor_lt ha hb
  simp only [bits]
  rw [show IntKind.u32.bits = 32 by rfl, BitVec.toNat_xor, BitVec.toNat_ofInt, BitVec.toNat_ofInt, IntKind.wrap_u32]
  have e1 : ((a : Int) % ((2 ^ 32 : Nat) : Int)).toNat = a := by omega
  have e2 : ((b : Int) % ((2 ^ 32 : Nat) : Int)).toNat = b := by omega
  rw [e1, e2]
  omega
end Go.Proofs.Ytdhicmbfknagjaa.Crc
namespace Go.Proofs.Ytdhicmbfknagjaa.Seg
set_option maxRecDepth 8000
open Go.RowKit
def B (l : List Int) : List Value := l.map (Value.int .u8)
theorem hid {p : Prop} (h : p) : Hid p := h
theorem ret_int {k : IntKind} {a b : Int} (h : a = b) : Ending.returned (.int k a) = .returned (.int k b) := by rw [h]
theorem ret_bool {a b : Bool} (h : a = b) : Ending.returned (.bool a) = .returned (.bool b) := by rw [h]

/-- The value is a slice over just these bytes. -/
def Seg (w : World) (v : Value) (l : List Int) : Prop :=
  l.length ≤ 140737488355328 ∧ ((∃ A c, v = .slice A 0 c ∧ l = []) ∨ ∃ g o cap, v = .slice (some ⟨g, o, none⟩) l.length cap ∧ l.length ≤ cap ∧ cap ≤ maxLen ∧ ∀ i, i < l.length → w.cell? ⟨g, o + i, none⟩ = some (.int .u8 (l.getD i 0)))

/-- The value is a slice of its own block, over just these bytes. -/
def Own (w : World) (base e : Nat) (v : Value) (l : List Int) : Prop :=
  l.length ≤ 140737488355328 ∧ ∃ g cap, v = .slice (some ⟨g, 0, none⟩) l.length cap ∧ w.ownsRow base e 1 (.slice (some ⟨g, 0, none⟩) l.length cap) l.length (B l)

theorem owns_below {w w' : World} {base e size : Nat} {v : Value} {n : Nat} {xs : List Value} (h : w.ownsRow base e size v n xs) (hb : Below w.heap.size w w') : w'.ownsRow base e size v n xs := by
  refine ⟨h.1, ?_⟩
  rcases h.2 with hn | ⟨g, cap, cur, rfl, hbs, hgg, rest⟩
  · exact .inl hn
  · exact .inr ⟨g, cap, cur, rfl, hbs, by rw [hb.block g (Array.getElem?_eq_some_iff.1 hgg).1]; exact hgg, rest⟩
theorem Own.below {w w' : World} {base e : Nat} {v : Value} {l : List Int} (h : Own w base e v l) (hb : Below w.heap.size w w') : Own w' base e v l := by
  obtain ⟨h1, g, cap, h2, h3⟩ := h
  exact ⟨h1, g, cap, h2, owns_below h3 hb⟩
theorem Own.drewN {w : World} {base e : Nat} {v : Value} {l : List Int} (h : Own w base e v l) (n : Nat) : Own (w.drewN n) base e v l := h
theorem owns_cell {w : World} {base e g n cap : Nat} {l : List Int} (h : w.ownsRow base e 1 (.slice (some ⟨g, 0, none⟩) n cap) n (B l)) (i : Nat) (hi : i < n) : w.cell? ⟨g, i, none⟩ = some (.int .u8 (l.getD i 0)) := by
  have hl : l.length = n := by have := h.1; simpa [B] using this
  rw [h.cellAt i (by omega)]
  simp [B, hl, hi]
theorem owns_cap {w : World} {base e g n cap : Nat} {l : List Value} (h : w.ownsRow base e 1 (.slice (some ⟨g, 0, none⟩) n cap) n l) : n ≤ cap ∧ cap ≤ maxLen ∧ base ≤ g ∧ g < w.heap.size := by
  rcases h.2 with ⟨h', _⟩ | ⟨g', cap', cur, h', hb, hg, hnc, hcm, hcs, htake⟩
  · simp at h'
  · simp only [Value.slice.injEq, Option.some.injEq, Addr.mk.injEq, and_true, true_and] at h'
    obtain ⟨rfl, rfl⟩ := h'
    exact ⟨hnc, hcm, hb, (Array.getElem?_eq_some_iff.1 hg).1⟩
theorem Own.seg {w : World} {base e : Nat} {v : Value} {l : List Int} (h : Own w base e v l) : Seg w v l := by
  obtain ⟨h1, g, cap, h2, h3⟩ := h
  have hc := owns_cap h3
  exact ⟨h1, .inr ⟨g, 0, cap, h2, hc.1, hc.2.1, fun i hi => by rw [Nat.zero_add]; exact owns_cell h3 i hi⟩⟩
theorem Seg.below {w w' : World} {B : Nat} {v : Value} {l : List Int} (h : Seg w v l) (hb : Below B w w') (hv : ∀ g, v.ownBlock = some g → g < B) : Seg w' v l := by
  obtain ⟨h1, h⟩ := h
  refine ⟨h1, ?_⟩
  rcases h with ⟨A, c, rfl, rfl⟩ | ⟨g, o, cap, rfl, h2, h3, h4⟩
  · exact .inl ⟨A, c, rfl, rfl⟩
  · exact .inr ⟨g, o, cap, rfl, h2, h3, fun i hi => by rw [hb.cell (p := ⟨g, o + i, none⟩) (hv g rfl)]; exact h4 i hi⟩
theorem Seg.drewN {w : World} {v : Value} {l : List Int} (h : Seg w v l) (n : Nat) : Seg (w.drewN n) v l := h

/-- The marks that a slice of n bytes bears from k on. -/
def marks (k : Int) (n : Nat) : List Int := (List.range n).map fun (i : Nat) => (k + (i : Int)) % 256
theorem marks_len (k : Int) (n : Nat) : (marks k n).length = n := by simp [marks]
theorem marks_get (k : Int) (n i : Nat) (h : i < n) : (marks k n).getD i 0 = (k + (i : Int)) % 256 := by simp [marks, h]
theorem marks_succ (k : Int) (n : Nat) : marks k (n + 1) = marks k n ++ [(k + (n : Int)) % 256] := by simp [marks, List.range_succ]
theorem marks_set (k : Int) (j : Nat) (l : List Int) (h : j < l.length) : (marks k j ++ l.drop j).set j ((k + (j : Int)) % 256) = marks k (j + 1) ++ l.drop (j + 1) := by
  rw [List.set_append_right _ _ (by simp [marks_len]), marks_len, Nat.sub_self, List.drop_eq_getElem_cons h, List.set_cons_zero, marks_succ]
  simp

theorem eq_cut {l m : List Int} (h : l.length = m.length) : decide (l = m) = decide (∀ i, i < l.length → l.getD i 0 = m.getD i 0) := by
  rw [decide_eq_decide]
  constructor
  · rintro rfl i _; rfl
  · intro hh
    refine List.ext_getElem h fun i h1 h2 => ?_
    have := hh i h1
    simpa [h1, h2] using this
theorem eq_len {l m : List Int} (h : ¬ l.length = m.length) : decide (l = m) = false := by
  simp only [decide_eq_false_iff_not]; rintro rfl; exact h rfl
theorem eq_at {l m : List Int} {i : Nat} (h : ¬ l.getD i 0 = m.getD i 0) : decide (l = m) = false := by
  simp only [decide_eq_false_iff_not]; rintro rfl; exact h rfl
/-- Each is a byte. -/
def Byt (l : List Int) : Prop := ∀ i, 0 ≤ l.getD i 0 ∧ l.getD i 0 < 256
theorem byt_of {l : List Int} (h : ∀ n ∈ l, 0 ≤ n ∧ n < 256) : Byt l := fun i => by
  by_cases hi : i < l.length
  · have := h l[i] (List.getElem_mem hi)
    simpa [hi] using this
  · simp [List.getElem?_eq_none (Nat.le_of_not_lt hi)]

/-- What the frame tells of a slice that came in, as a run of bytes. -/
theorem row_seg (w : World) (a : Option Addr) (len cap : Nat) (zs : List Int)
    (h : (a = none ∧ len = 0 ∧ cap = 0 ∧ zs = []) ∨ ∃ x, a = some x ∧ len ≤ cap ∧ cap ≤ maxLen ∧ zs.length = cap ∧ (∀ i, i < zs.length → w.cell? (x.add i) = some (.int .u8 (zs.getD i 0))) ∧ ∀ n ∈ zs, (Lit.int .u8 n).wf = true)
    (hl : len ≤ 140737488355328) : ∃ l : List Int, l.length = len ∧ Seg w (.slice a len cap) l ∧ Byt l ∧ (len = 0 ∨ ∀ g, (Value.slice a len cap).ownBlock = some g → g < w.heap.size) := by
  rcases h with ⟨rfl, rfl, rfl, rfl⟩ | ⟨x, rfl, h1, h2, h3, h4, h5⟩
  · exact ⟨[], rfl, ⟨by simp, .inl ⟨none, 0, rfl, rfl⟩⟩, fun i => by simp, .inl rfl⟩
  · by_cases hz : len = 0
    · subst hz
      exact ⟨[], rfl, ⟨by simp, .inl ⟨some x, cap, rfl, rfl⟩⟩, fun i => by simp, .inl rfl⟩
    · have hlen : (zs.take len).length = len := by simp; omega
      obtain ⟨b, off, spot⟩ := x
      have hc := h4 0 (by omega)
      have hspot : spot = none := by simpa [Addr.add] using World.cell?_spot hc
      subst hspot
      have hlt : b < w.heap.size := by have := World.block_lt_of_cell? w _ hc; simpa [Addr.add] using this
      refine ⟨zs.take len, hlen, ⟨by omega, .inr ⟨b, off, cap, by rw [hlen], by omega, h2, fun i hi => ?_⟩⟩, byt_of fun n hn => ?_, .inr fun g hg => by simp [Value.ownBlock] at hg; omega⟩
      · have := h4 i (by omega)
        rw [show (⟨b, off, none⟩ : Addr).add i = ⟨b, off + i, none⟩ by simp [Addr.add]] at this
        rw [this]
        have hi2 : i < len := by omega
        simp [List.getD_eq_getElem?_getD, hi2]
      · have := h5 n (List.mem_of_mem_take hn)
        have := bounds_u8 this
        omega
end Go.Proofs.Ytdhicmbfknagjaa.Seg
