/- A run of bytes in memory, and what keeps it; Heads, records and batches: as plain data, and how they lie in memory; What the law's helpers over Heads answer: how much of the measure is left; a copy in memory of its own; whether two are alike. -/
import Derived.WalkKit
import Derived.Laws.OwnMore
import Derived.Deep.Draws
import Derived.OpenShut
import Derived.Deep.Slices
import Derived.RegionTactic
import Derived.Maps.AppendAt
import Derived.Laws.Rows
import Derived.Deep.RegionWith
import Derived.Outline
import Derived.Test.YticihnoekffelaaRows
namespace Go.Proofs.Yticihnoekffelaa.Seg
set_option maxRecDepth 8000
open Go.RowKit
def B (l : List Int) : List Value := l.map (Value.int .u8)
theorem hid {p : Prop} (h : p) : Hid p := h
theorem ret_int {k : IntKind} {a b : Int} (h : a = b) : Ending.returned (.int k a) = .returned (.int k b) := by rw [h]
theorem ret_bool {a b : Bool} (h : a = b) : Ending.returned (.bool a) = .returned (.bool b) := by rw [h]

/-- The value is a slice over just these bytes. -/
def Seg (w : World) (v : Value) (l : List Int) : Prop :=
  l.length ≤ 140737488355328 ∧ ((∃ A c, v = .slice A 0 c ∧ l = []) ∨ ∃ g o cap, v = .slice (some ⟨g, o, none⟩) l.length cap ∧ l.length ≤ cap ∧ cap ≤ maxLen ∧ ∀ i, i < l.length → w.cell? ⟨g, o + i, none⟩ = some (.int .u8 (l.getD i 0)))

/-- The value is a slice of its own block, over just these bytes. -/
def Own (w : World) (base e : Nat) (v : Value) (l : List Int) : Prop :=
  l.length ≤ 140737488355328 ∧ ∃ g cap, v = .slice (some ⟨g, 0, none⟩) l.length cap ∧ w.ownsRow base e 1 (.slice (some ⟨g, 0, none⟩) l.length cap) l.length (B l)

theorem owns_below {w w' : World} {base e size : Nat} {v : Value} {n : Nat} {xs : List Value} (h : w.ownsRow base e size v n xs) (hb : Below w.heap.size w w') : w'.ownsRow base e size v n xs := by
  refine ⟨h.1, ?_⟩
  rcases h.2 with hn | ⟨g, cap, cur, rfl, hbs, hgg, rest⟩
  · exact .inl hn
  · exact .inr ⟨g, cap, cur, rfl, hbs, by rw [hb.block g (Array.getElem?_eq_some_iff.1 hgg).1]; exact hgg, rest⟩
theorem Own.below {w w' : World} {base e : Nat} {v : Value} {l : List Int} (h : Own w base e v l) (hb : Below w.heap.size w w') : Own w' base e v l := by
  obtain ⟨h1, g, cap, h2, h3⟩ := h
  exact ⟨h1, g, cap, h2, owns_below h3 hb⟩
theorem Own.drewN {w : World} {base e : Nat} {v : Value} {l : List Int} (h : Own w base e v l) (n : Nat) : Own (w.drewN n) base e v l := h
theorem owns_cell {w : World} {base e g n cap : Nat} {l : List Int} (h : w.ownsRow base e 1 (.slice (some ⟨g, 0, none⟩) n cap) n (B l)) (i : Nat) (hi : i < n) : w.cell? ⟨g, i, none⟩ = some (.int .u8 (l.getD i 0)) := by
  have hl : l.length = n := by have := h.1; simpa [B] using this
  rw [h.cellAt i (by omega)]
  simp [B, hl, hi]
theorem owns_cap {w : World} {base e g n cap : Nat} {l : List Value} (h : w.ownsRow base e 1 (.slice (some ⟨g, 0, none⟩) n cap) n l) : n ≤ cap ∧ cap ≤ maxLen ∧ base ≤ g ∧ g < w.heap.size := by
  rcases h.2 with ⟨h', _⟩ | ⟨g', cap', cur, h', hb, hg, hnc, hcm, hcs, htake⟩
  · simp at h'
  · simp only [Value.slice.injEq, Option.some.injEq, Addr.mk.injEq, and_true, true_and] at h'
    obtain ⟨rfl, rfl⟩ := h'
    exact ⟨hnc, hcm, hb, (Array.getElem?_eq_some_iff.1 hg).1⟩
theorem Own.seg {w : World} {base e : Nat} {v : Value} {l : List Int} (h : Own w base e v l) : Seg w v l := by
  obtain ⟨h1, g, cap, h2, h3⟩ := h
  have hc := owns_cap h3
  exact ⟨h1, .inr ⟨g, 0, cap, h2, hc.1, hc.2.1, fun i hi => by rw [Nat.zero_add]; exact owns_cell h3 i hi⟩⟩
theorem Seg.below {w w' : World} {B : Nat} {v : Value} {l : List Int} (h : Seg w v l) (hb : Below B w w') (hv : ∀ g, v.ownBlock = some g → g < B) : Seg w' v l := by
  obtain ⟨h1, h⟩ := h
  refine ⟨h1, ?_⟩
  rcases h with ⟨A, c, rfl, rfl⟩ | ⟨g, o, cap, rfl, h2, h3, h4⟩
  · exact .inl ⟨A, c, rfl, rfl⟩
  · exact .inr ⟨g, o, cap, rfl, h2, h3, fun i hi => by rw [hb.cell (p := ⟨g, o + i, none⟩) (hv g rfl)]; exact h4 i hi⟩
theorem Seg.drewN {w : World} {v : Value} {l : List Int} (h : Seg w v l) (n : Nat) : Seg (w.drewN n) v l := h

/-- The marks that a slice of n bytes bears from k on. -/
def marks (k : Int) (n : Nat) : List Int := (List.range n).map fun (i : Nat) => (k + (i : Int)) % 256
theorem marks_len (k : Int) (n : Nat) : (marks k n).length = n := by simp [marks]
theorem marks_get (k : Int) (n i : Nat) (h : i < n) : (marks k n).getD i 0 = (k + (i : Int)) % 256 := by simp [marks, h]
theorem marks_succ (k : Int) (n : Nat) : marks k (n + 1) = marks k n ++ [(k + (n : Int)) % 256] := by simp [marks, List.range_succ]
theorem marks_set (k : Int) (j : Nat) (l : List Int) (h : j < l.length) : (marks k j ++ l.drop j).set j ((k + (j : Int)) % 256) = marks k (j + 1) ++ l.drop (j + 1) := by
  rw [List.set_append_right _ _ (by simp [marks_len]), marks_len, Nat.sub_self, List.drop_eq_getElem_cons h, List.set_cons_zero, marks_succ]
  simp

theorem eq_cut {l m : List Int} (h : l.length = m.length) : decide (l = m) = decide (∀ i, i < l.length → l.getD i 0 = m.getD i 0) := by
  rw [decide_eq_decide]
  constructor
  · rintro rfl i _; rfl
  · intro hh
    refine List.ext_getElem h fun i h1 h2 => ?_
    have := hh i h1
    simpa [h1, h2] using this
theorem eq_len {l m : List Int} (h : ¬ l.length = m.length) : decide (l = m) = false := by
  simp only [decide_eq_false_iff_not]; rintro rfl; exact h rfl
theorem eq_at {l m : List Int} {i : Nat} (h : ¬ l.getD i 0 = m.getD i 0) : decide (l = m) = false := by
  simp only [decide_eq_false_iff_not]; rintro rfl; exact h rfl
/-- Each is a byte. -/
def Byt (l : List Int) : Prop := ∀ i, 0 ≤ l.getD i 0 ∧ l.getD i 0 < 256
theorem byt_of {l : List Int} (h : ∀ n ∈ l, 0 ≤ n ∧ n < 256) : Byt l := fun i => by
  by_cases hi : i < l.length
  · have := h l[i] (List.getElem_mem hi)
    simpa [hi] using this
  · simp [List.getElem?_eq_none (Nat.le_of_not_lt hi)]

/-- What the frame tells of a slice that came in, as a run of bytes. -/
theorem row_seg (w : World) (a : Option Addr) (len cap : Nat) (zs : List Int)
    (h : (a = none ∧ len = 0 ∧ cap = 0 ∧ zs = []) ∨ ∃ x, a = some x ∧ len ≤ cap ∧ cap ≤ maxLen ∧ zs.length = cap ∧ (∀ i, i < zs.length → w.cell? (x.add i) = some (.int .u8 (zs.getD i 0))) ∧ ∀ n ∈ zs, (Lit.int .u8 n).wf = true)
    (hl : len ≤ 140737488355328) : ∃ l : List Int, l.length = len ∧ Seg w (.slice a len cap) l ∧ Byt l ∧ (len = 0 ∨ ∀ g, (Value.slice a len cap).ownBlock = some g → g < w.heap.size) := by
  rcases h with ⟨rfl, rfl, rfl, rfl⟩ | ⟨x, rfl, h1, h2, h3, h4, h5⟩
  · exact ⟨[], rfl, ⟨by simp, .inl ⟨none, 0, rfl, rfl⟩⟩, fun i => by simp, .inl rfl⟩
  · by_cases hz : len = 0
    · subst hz
      exact ⟨[], rfl, ⟨by simp, .inl ⟨some x, cap, rfl, rfl⟩⟩, fun i => by simp, .inl rfl⟩
    · have hlen : (zs.take len).length = len := by simp; omega
      obtain ⟨b, off, spot⟩ := x
      have hc := h4 0 (by omega)
      have hspot : spot = none := by simpa [Addr.add] using World.cell?_spot hc
      subst hspot
      have hlt : b < w.heap.size := by have := World.block_lt_of_cell? w _ hc; simpa [Addr.add] using this
      refine ⟨zs.take len, hlen, ⟨by omega, .inr ⟨b, off, cap, by rw [hlen], by omega, h2, fun i hi => ?_⟩⟩, byt_of fun n hn => ?_, .inr fun g hg => by simp [Value.ownBlock] at hg; omega⟩
      · have := h4 i (by omega)
        rw [show (⟨b, off, none⟩ : Addr).add i = ⟨b, off + i, none⟩ by simp [Addr.add]] at this
        rw [this]
        have hi2 : i < len := by omega
        simp [List.getD_eq_getElem?_getD, hi2]
      · have := h5 n (List.mem_of_mem_take hn)
        have := bounds_u8 this
        omega
end Go.Proofs.Yticihnoekffelaa.Seg
namespace Go.Proofs.Yticihnoekffelaa.Recs
set_option maxRecDepth 8000
open Go.RowKit

structure Hd where
  key : ByteArray
  val : ByteArray
  deriving Inhabited
structure Rec where
  time : Int
  keyed : Bool
  key : ByteArray
  gone : Bool
  val : ByteArray
  heads : List Hd
  deriving Inhabited
structure Bat where
  base : Int
  epoch : Int
  producer : Int
  turn : Int
  seq : Int
  flags : Int
  recs : List Rec
  deriving Inhabited

/-- A slice of n elements of s cells each, in a block from lo on, below block b: cell j of element i holds 'f i j'. -/
def Row (w : World) (lo b s : Nat) (v : Value) (n : Nat) (f : Nat → Nat → Value) : Prop :=
  n ≤ 9223372036854775807 ∧ ∃ A c, v = .slice A n c ∧ (n = 0 ∨ ∃ g o, A = some ⟨g, o, none⟩ ∧ g < b ∧ n ≤ c ∧ (∀ i, i < n → ∀ j, j < s → w.cell? ⟨g, o + i * s + j, none⟩ = some (f i j)) ∧ lo ≤ g)
theorem hsz (w : World) (o : Obj) : (w.alloc o).heap.size = w.heap.size + 1 := by show (w.heap.push o).size = _; simp
theorem chain {w wr w1 : World} (h : Below w.heap.size w wr) (b1 : Below wr.heap.size wr w1) : Below w.heap.size w w1 := h.trans (b1.mono h.size)
theorem chainD {w wr w1 : World} (h : Below w.heap.size w wr) (b1 : Below wr.drew.heap.size wr.drew w1) : Below w.heap.size w w1 := h.drew.trans (b1.mono h.size)
theorem below1 (w : World) (a : Obj) : Below w.heap.size w (w.alloc a) := (Below.refl _ w).alloc (Nat.le_refl _) _
theorem below2 (w : World) (a b : Obj) : Below w.heap.size w ((w.alloc a).alloc b) := (below1 w a).alloc (by rw [hsz]; omega) _
theorem below3 (w : World) (a b c : Obj) : Below w.heap.size w (((w.alloc a).alloc b).alloc c) := (below2 w a b).alloc (by rw [hsz, hsz]; omega) _
theorem at3 (w : World) (a b c : Obj) : (((w.alloc a).alloc b).alloc c).heap[w.heap.size + 1]? = some b := by
  show (((w.heap.push a).push b).push c)[w.heap.size + 1]? = some b
  rw [Array.getElem?_push, if_neg (by simp), Array.getElem?_push, if_pos (by simp)]
theorem Row.keep {w w' : World} {lo b s n : Nat} {v : Value} {f : Nat → Nat → Value} (h : Row w lo b s v n f) (hk : ∀ g, lo ≤ g → g < b → w'.heap[g]? = w.heap[g]?) : Row w' lo b s v n f := by
  obtain ⟨hn, A, c, h1, h2⟩ := h
  refine ⟨hn, A, c, h1, h2.imp id ?_⟩
  rintro ⟨g, o, h3, h4, h5, h6, h7⟩
  exact ⟨g, o, h3, h4, h5, fun i hi j hj => by rw [World.cell?_of_block (w := w) (a := ⟨g, o + i * s + j, none⟩) (hk g h7 h4)]; exact h6 i hi j hj, h7⟩
theorem Row.below {w w' : World} {lo b s n : Nat} {v : Value} {f : Nat → Nat → Value} (h : Row w lo b s v n f) (hb : Below b w w') : Row w' lo b s v n f := h.keep fun g _ hg => hb.block g hg
theorem Row.mono {w : World} {lo lo' b b' s n : Nat} {v : Value} {f : Nat → Nat → Value} (h : Row w lo b s v n f) (hl : lo' ≤ lo) (hb : b ≤ b') : Row w lo' b' s v n f := by
  obtain ⟨hn, A, c, h1, h2⟩ := h
  refine ⟨hn, A, c, h1, h2.imp id ?_⟩
  rintro ⟨g, o, h3, h4, h5, h6, h7⟩
  exact ⟨g, o, h3, Nat.lt_of_lt_of_le h4 hb, h5, h6, Nat.le_trans hl h7⟩
theorem Row.drewN {w : World} {lo b s n : Nat} {v : Value} {f : Nat → Nat → Value} (h : Row w lo b s v n f) (k : Nat) : Row (w.drewN k) lo b s v n f := h

/-- Block g is a row that the call made itself, of n elements of s cells; cell q holds 'F q'. -/
def Mine (w : World) (e s g n : Nat) (F : Nat → Value) : Prop := w.ownsRow g e s (.slice (some ⟨g, 0, none⟩) n n) n ((List.range (n * s)).map F)
theorem Mine.of_made {w : World} {e s g n : Nat} {xs : List Value} (h : w.ownsRow g e s (.slice (some ⟨g, 0, none⟩) n n) n xs) (hl : xs.length = n * s) : Mine w e s g n (fun q => xs.getD q default) := by
  have : (List.range (n * s)).map (fun q => xs.getD q default) = xs := List.ext_getElem (by simp [hl]) fun i h1 h2 => by simp [h2]
  unfold Mine
  rw [this]
  exact h
theorem Mine.cell {w : World} {e s g n : Nat} {F : Nat → Value} (h : Mine w e s g n F) (q : Nat) (hq : q < n * s) : w.cell? ⟨g, q, none⟩ = some (F q) := by
  have := World.ownsRow.cellAt h q hq
  rw [this]
  simp [hq]
theorem Mine.frozen {w : World} {e s g n : Nat} {F : Nat → Value} (h : Mine w e s g n F) (q : Nat) : w.frozen? ⟨g, q, none⟩ = false := World.ownsRow.frozenAt h q
theorem Mine.lt {w : World} {e s g n : Nat} {F : Nat → Value} (h : Mine w e s g n F) : g < w.heap.size := by
  rcases h.2 with ⟨h', _⟩ | ⟨g', cap', cur, h', hb, hg, hnc, hcm, hcs, htake⟩
  · simp at h'
  · simp only [Value.slice.injEq, Option.some.injEq, Addr.mk.injEq, and_true, true_and] at h'
    obtain ⟨rfl, rfl⟩ := h'
    exact (Array.getElem?_eq_some_iff.1 hg).1
theorem Mine.set {w : World} {e s g n : Nat} {F : Nat → Value} (h : Mine w e s g n F) (q : Nat) (v : Value) : Mine (w.setCell ⟨g, q, none⟩ v) e s g n (fun i => if i = q then v else F i) := by
  have := (World.ownsRow.stored h q v).1
  have he : ((List.range (n * s)).map F).set q v = (List.range (n * s)).map (fun i => if i = q then v else F i) := List.ext_getElem (by simp) fun i h1 h2 => by
    by_cases hi : i = q
    · subst hi; simp
    · rw [List.getElem_set_ne (by omega)]; simp [hi]
  rw [he] at this
  exact this
theorem Mine.below {w w' : World} {e s g n b : Nat} {F : Nat → Value} (h : Mine w e s g n F) (hb : Below b w w') (hg : g < b) : Mine w' e s g n F := by
  refine ⟨h.1, ?_⟩
  rcases h.2 with hn | ⟨g', cap, cur, h', hbs, hgg, rest⟩
  · exact .inl hn
  · have h'' := h'
    simp only [Value.slice.injEq, Option.some.injEq, Addr.mk.injEq, and_true, true_and] at h''
    obtain ⟨rfl, rfl⟩ := h''
    exact .inr ⟨g, n, cur, h', hbs, by rw [hb.block g hg]; exact hgg, rest⟩
theorem Mine.row {w : World} {e s g n lo b : Nat} {F : Nat → Value} {f : Nat → Nat → Value} (h : Mine w e s g n F) (hn : n ≤ 9223372036854775807) (hb : g < b) (hlo : lo ≤ g) (hf : ∀ i, i < n → ∀ j, j < s → F (i * s + j) = f i j) :
    Row w lo b s (.slice (some ⟨g, 0, none⟩) n n) n f :=
  ⟨hn, _, _, rfl, .inr ⟨g, 0, rfl, hb, Nat.le_refl _, fun i hi j hj => by
    have hq : i * s + j < n * s := by
      have : (i + 1) * s ≤ n * s := Nat.mul_le_mul_right s hi
      rw [Nat.succ_mul] at this
      omega
    rw [Nat.zero_add, h.cell _ hq, hf i hi j hj], hlo⟩⟩

def hdCells (hs : List Hd) (i j : Nat) : Value := if j = 0 then .string (hs.getD i default).key else .string (hs.getD i default).val
def Heads (w : World) (lo b : Nat) (v : Value) (hs : List Hd) : Prop := Row w lo b 2 v hs.length (hdCells hs)
def recVal (r : Rec) (hv : Value) : Value := .agg #[.int .i64 r.time, .bool r.keyed, .string r.key, .bool r.gone, .string r.val, hv]
/-- The value is this record. -/
def RecAt (w : World) (lo b : Nat) (v : Value) (r : Rec) : Prop := ∃ hv, v = recVal r hv ∧ Heads w lo b hv r.heads
def recCells (rs : List Rec) (H : Nat → Value) (i j : Nat) : Value :=
  if j = 0 then .int .i64 (rs.getD i default).time else if j = 1 then .bool (rs.getD i default).keyed else if j = 2 then .string (rs.getD i default).key else if j = 3 then .bool (rs.getD i default).gone else
  if j = 4 then .string (rs.getD i default).val else H i
def RecsAt (w : World) (lo b : Nat) (v : Value) (rs : List Rec) : Prop := ∃ H : Nat → Value, Row w lo b 6 v rs.length (recCells rs H) ∧ ∀ i, i < rs.length → Heads w lo b (H i) (rs.getD i default).heads
def batVal (t : Bat) (rv : Value) : Value := .agg #[.int .i64 t.base, .int .i64 t.epoch, .int .i64 t.producer, .int .i64 t.turn, .int .i64 t.seq, .int .i64 t.flags, rv]
def BatAt (w : World) (lo b : Nat) (v : Value) (t : Bat) : Prop := ∃ rv, v = batVal t rv ∧ RecsAt w lo b rv t.recs

section
variable {w w' : World} {lo lo' b b' : Nat} {v : Value} {hs : List Hd} {r : Rec} {rs : List Rec} {t : Bat}
theorem Heads.keep (h : Heads w lo b v hs) (hk : ∀ g, lo ≤ g → g < b → w'.heap[g]? = w.heap[g]?) : Heads w' lo b v hs := Row.keep h hk
theorem Heads.below (h : Heads w lo b v hs) (hb : Below b w w') : Heads w' lo b v hs := Row.below h hb
theorem Heads.mono (h : Heads w lo b v hs) (hl : lo' ≤ lo) (hb : b ≤ b') : Heads w lo' b' v hs := Row.mono h hl hb
theorem Heads.drewN (h : Heads w lo b v hs) (k : Nat) : Heads (w.drewN k) lo b v hs := h
theorem RecAt.keep (h : RecAt w lo b v r) (hk : ∀ g, lo ≤ g → g < b → w'.heap[g]? = w.heap[g]?) : RecAt w' lo b v r := by
  obtain ⟨hv, h1, h2⟩ := h
  exact ⟨hv, h1, h2.keep hk⟩
theorem RecAt.below (h : RecAt w lo b v r) (hb : Below b w w') : RecAt w' lo b v r := h.keep fun g _ hg => hb.block g hg
theorem RecAt.mono (h : RecAt w lo b v r) (hl : lo' ≤ lo) (hb : b ≤ b') : RecAt w lo' b' v r := by
  obtain ⟨hv, h1, h2⟩ := h
  exact ⟨hv, h1, h2.mono hl hb⟩
theorem RecsAt.keep (h : RecsAt w lo b v rs) (hk : ∀ g, lo ≤ g → g < b → w'.heap[g]? = w.heap[g]?) : RecsAt w' lo b v rs := by
  obtain ⟨H, h1, h2⟩ := h
  exact ⟨H, h1.keep hk, fun i hi => (h2 i hi).keep hk⟩
theorem RecsAt.below (h : RecsAt w lo b v rs) (hb : Below b w w') : RecsAt w' lo b v rs := h.keep fun g _ hg => hb.block g hg
theorem RecsAt.mono (h : RecsAt w lo b v rs) (hl : lo' ≤ lo) (hb : b ≤ b') : RecsAt w lo' b' v rs := by
  obtain ⟨H, h1, h2⟩ := h
  exact ⟨H, h1.mono hl hb, fun i hi => (h2 i hi).mono hl hb⟩
theorem RecsAt.drewN (h : RecsAt w lo b v rs) (k : Nat) : RecsAt (w.drewN k) lo b v rs := h
theorem BatAt.keep (h : BatAt w lo b v t) (hk : ∀ g, lo ≤ g → g < b → w'.heap[g]? = w.heap[g]?) : BatAt w' lo b v t := by
  obtain ⟨hv, h1, h2⟩ := h
  exact ⟨hv, h1, h2.keep hk⟩
theorem BatAt.below (h : BatAt w lo b v t) (hb : Below b w w') : BatAt w' lo b v t := h.keep fun g _ hg => hb.block g hg
theorem BatAt.mono (h : BatAt w lo b v t) (hl : lo' ≤ lo) (hb : b ≤ b') : BatAt w lo' b' v t := by
  obtain ⟨hv, h1, h2⟩ := h
  exact ⟨hv, h1, h2.mono hl hb⟩
end

/-- Every text is one that memory holds. -/
def FineH (h : Hd) : Prop := h.key.size ≤ maxLen ∧ h.val.size ≤ maxLen
def FineR (r : Rec) : Prop := r.key.size ≤ maxLen ∧ r.val.size ≤ maxLen ∧ r.heads.length ≤ maxLen ∧ ∀ i, i < r.heads.length → FineH (r.heads.getD i default)
def FineB (t : Bat) : Prop := t.recs.length ≤ maxLen ∧ ∀ i, i < t.recs.length → FineR (t.recs.getD i default)
/-- .. and has few enough elements. -/
def FewR (r : Rec) : Prop := r.heads.length ≤ 1048576
def FewB (t : Bat) : Prop := t.recs.length ≤ 1048576 ∧ ∀ i, i < t.recs.length → FewR (t.recs.getD i default)

theorem Heads.cell0 {w : World} {g o n : Nat} {hs : List Hd} (h : ∀ i, i < n → ∀ j, j < 2 → w.cell? ⟨g, o + i * 2 + j, none⟩ = some (hdCells hs i j)) (i : Nat) (hi : i < n) :
    w.cell? ⟨g, o + i * 2, none⟩ = some (.string (hs.getD i default).key) ∧ w.cell? ⟨g, o + i * 2 + 1, none⟩ = some (.string (hs.getD i default).val) := ⟨h i hi 0 (by omega), h i hi 1 (by omega)⟩
end Go.Proofs.Yticihnoekffelaa.Recs
namespace Go.Proofs.Yticihnoekffelaa.Sz
set_option maxRecDepth 8000
open Go.RowKit
open Recs
set_option linter.unusedVariables false

theorem row2 {F : Nat → Value} {K V : Nat → ByteArray} {i : Nat} (h : F (i * 2) = .string (K i) ∧ F (i * 2 + 1) = .string (V i)) (q : Nat) (hq : q < 2) : F (i * 2 + q) = if q = 0 then .string (K i) else .string (V i) := by
  match q, hq with
  | 0, _ => exact h.1
  | 1, _ => exact h.2
theorem info48 : (Try.prog.info? 116).map (·.size) = some 2 := by kernel_rfl
theorem toHead_any (k v : ByteArray) (w : World) : Calls Try.prog 107 #[.agg #[.string k, .string v]] w fun e w' => e = .returned (.agg #[.string k, .string v]) ∧ Below w.heap.size w w' := by
  go_enter Try.func107, Try.ntmps107
  go_wp2
  exact bodyPost_ret (v := .agg #[.string k, .string v]) (results_cell_row rfl _ _ (w.heap.size + 1) _ _ _ _ rfl (at3 _ _ _ _) Try.underlying116 rfl info48) rfl ⟨rfl, below3 _ _ _ _⟩

theorem szHead_any (k v : ByteArray) (l : Int) (w : World) (h1 : k.size ≤ maxLen) (h2 : v.size ≤ maxLen) (h3 : -1 ≤ l) (h4 : l ≤ 1048576) : Calls Try.prog 106 #[.agg #[.string k, .string v], .int .i64 l] w fun e w' => ∃ r, e = .returned (.int .i64 r) ∧ -1 ≤ r ∧ r ≤ l ∧ Below w.heap.size w w' := by
  unfold maxLen at h1 h2
  go_enter Try.func106, Try.ntmps106
  go_wp2
  all_goals
    go_ret
    exact ⟨_, rfl, by omega, by omega, below1 _ _⟩
theorem eqHead_any (k v : ByteArray) (w : World) : Calls Try.prog 101 #[.agg #[.string k, .string v], .agg #[.string k, .string v]] w fun e w' => e = .returned (.bool true) ∧ Below w.heap.size w w' := by
  go_enter Try.func101, Try.ntmps101
  go_wp2
  go_ret
  exact ⟨rfl, below2 _ _ _⟩

theorem szHeadS_core (g o n c : Nat) (K V : Nat → ByteArray) (l : Int) (w : World) (h3 : -1 ≤ l) (h4 : l ≤ 1048576) (hn : n ≤ 9223372036854775807) (hc : n ≤ c) (hg : g < w.heap.size)
    (hk : ∀ i, i < n → (K i).size ≤ maxLen ∧ (V i).size ≤ maxLen)
    (ha : ∀ i, i < n → w.cell? ⟨g, o + i * 2, none⟩ = some (.string (K i)) ∧ w.cell? ⟨g, o + i * 2 + 1, none⟩ = some (.string (V i))) :
    Calls Try.prog 104 #[.slice (some ⟨g, o, none⟩) n c, .int .i64 l] w fun e w' => ∃ r, e = .returned (.int .i64 r) ∧ -1 ≤ r ∧ r ≤ l ∧ (0 ≤ r → (n : Int) ≤ l) ∧ Below w.heap.size w w' := by
  have HA := Seg.hid ha
  have HK := Seg.hid hk
  clear ha hk
  go_enter Try.func104, Try.ntmps104
  by_cases hlt : l - (n : Int) < 0
  · go_wp2
    go_ret
    exact ⟨_, rfl, by omega, by omega, fun h => absurd h (by omega), Below.refl _ _⟩
  go_wp2
  go_loopw [1, 5] (fun x i wr => ∃ (k : Nat) (r : Int), k ≤ n ∧ x = .int .i64 r ∧ i = .int .i64 k ∧ 0 ≤ r ∧ r ≤ l ∧ Below w.heap.size w wr) (fun _ i _ => n - (intOf i).toNat)
  case atStart => exact ⟨0, l - n, Nat.zero_le _, rfl, rfl, by omega, by omega, Below.refl _ _⟩
  case round =>
    obtain ⟨k, r, hk, rfl, rfl, hr0, hr1, hb⟩ := hrel
    have HB := Seg.hid hb
    clear hb
    by_cases hlt2 : k < n
    · have c1 : wr.cell? ⟨g, o + k * 2, none⟩ = some (.string (K k)) := by rw [HB.out.cell (p := ⟨g, o + k * 2, none⟩) hg]; exact (HA.out k hlt2).1
      have c2 : wr.cell? ⟨g, o + k * 2 + 1, none⟩ = some (.string (V k)) := by rw [HB.out.cell (p := ⟨g, o + k * 2 + 1, none⟩) hg]; exact (HA.out k hlt2).2
      have h0 : (0 : Int) ≤ (k : Int) := by omega
      have h1 : (k : Int) < (n : Int) := by omega
      go_wp2_with fail
      refine (szHead_any (K k) (V k) r wr (HK.out k hlt2).1 (HK.out k hlt2).2 (by omega) (by omega)).mono ?_
      rintro e w1 ⟨r1, rfl, hr2, hr3, b1⟩
      have B1 := Seg.hid (HB.out.trans (b1.mono HB.out.size))
      clear b1
      by_cases hneg : r1 < 0
      · go_wp2
        go_ret
        exact ⟨-1, rfl, by omega, by omega, fun h => absurd h (by omega), B1.out⟩
      · go_wp2
        go_roundw
        case rel => exact ⟨k + 1, r1, by omega, rfl, by go_num, by omega, by omega, B1.out⟩
        case measure => simp [intOf]; omega
    · have : k = n := by omega
      subst this
      go_wp2
      go_ret
      exact ⟨r, rfl, by omega, by omega, fun _ => by omega, HB.out⟩

theorem szHeadS_none (A : Option Addr) (c : Nat) (l : Int) (w : World) (h3 : -1 ≤ l) (h4 : l ≤ 1048576) :
    Calls Try.prog 104 #[.slice A 0 c, .int .i64 l] w fun e w' => ∃ r, e = .returned (.int .i64 r) ∧ -1 ≤ r ∧ r ≤ l ∧ Below w.heap.size w w' := by
  go_enter Try.func104, Try.ntmps104
  by_cases hlt : l < 0
  · go_wp2
    go_ret
    exact ⟨_, rfl, by omega, by omega, Below.refl _ _⟩
  go_wp2
  go_loop [1, 5] (fun x i => i = .int .i64 0 ∧ ∃ r, x = .int .i64 r ∧ 0 ≤ r ∧ r ≤ l) (fun _ _ => 0)
  case atStart => exact ⟨rfl, _, rfl, by omega, by omega⟩
  case round =>
    obtain ⟨rfl, r, rfl, hr0, hr1⟩ := hrel
    go_wp2
    go_ret
    exact ⟨r, rfl, by omega, by omega, Below.refl _ _⟩

theorem szHeadS_any (v : Value) (hs : List Hd) (l : Int) (w : World) (lo b : Nat) (h3 : -1 ≤ l) (h4 : l ≤ 1048576) (hv : Heads w lo b v hs) (hb : b ≤ w.heap.size) (hf : ∀ i, i < hs.length → FineH (hs.getD i default)) :
    Calls Try.prog 104 #[v, .int .i64 l] w fun e w' => ∃ r, e = .returned (.int .i64 r) ∧ -1 ≤ r ∧ r ≤ l ∧ (0 ≤ r → (hs.length : Int) ≤ l) ∧ Below w.heap.size w w' := by
  obtain ⟨hn, A, c, rfl, h⟩ := hv
  by_cases hz : hs.length = 0
  · rw [hz]
    exact (szHeadS_none A c l w h3 h4).mono fun e w' ⟨r, a1, a2, a3, a4⟩ => ⟨r, a1, a2, a3, fun h => by omega, a4⟩
  obtain ⟨g, o, rfl, hg, hc, hcell, _⟩ := h.resolve_left hz
  exact szHeadS_core g o hs.length c (fun i => (hs.getD i default).key) (fun i => (hs.getD i default).val) l w h3 h4 hn hc (by omega) (fun i hi => hf i hi) (fun i hi => Heads.cell0 hcell i hi)

theorem info2 : (Try.prog.info? 116).map (fun i => (i.zero, i.size, i.bytes)) = some (some (.agg #[.string ByteArray.empty, .string ByteArray.empty]), 2, 32) := by kernel_rfl

set_option maxHeartbeats 400000 in
theorem toHeadS_core (g o n c : Nat) (K V : Nat → ByteArray) (w : World) (hn : n ≤ 1048576) (hc : n ≤ c) (hg : g < w.heap.size)
    (ha : ∀ i, i < n → w.cell? ⟨g, o + i * 2, none⟩ = some (.string (K i)) ∧ w.cell? ⟨g, o + i * 2 + 1, none⟩ = some (.string (V i))) :
    Calls Try.prog 105 #[.slice (some ⟨g, o, none⟩) n c] w fun e w' => ∃ v, e = .returned v ∧ Row w' w.heap.size w'.heap.size 2 v n (fun i j => if j = 0 then .string (K i) else .string (V i)) ∧ Below w.heap.size w w' := by
  obtain ⟨i0, hi, hz0, hz1, hz2⟩ := info_parts info2
  have HA := Seg.hid ha
  clear ha
  go_enter Try.func105, Try.ntmps105
  go_wp2_with (at_make; refine wpList_make_full _ rfl _ _ 86 rfl w.heap.size 116 i0 _ 2 Try.underlying86 hi hz0 hz1 .i64 .i64 _ _ n rfl rfl rfl rfl (by rw [hz2]; omega) (by unfold maxLen; omega) (Nat.le_refl _) ?_; intro w1 hown hgr)
  have hb1 := (Below.refl w.heap.size w).grown hgr (Nat.le_refl _) (fun k hk => by cases hk)
  have HM := Seg.hid (Mine.of_made hown hown.1)
  have HB := Seg.hid hb1
  clear hown hgr hb1 hi hz0 hz1 hz2
  go_loopw [4] (fun i wr => ∃ (j : Nat) (F : Nat → Value), j ≤ n ∧ i = .int .i64 j ∧ Hid (Mine wr 116 2 w.heap.size n F ∧ Below w.heap.size w wr ∧ ∀ i, i < j → F (i * 2) = .string (K i) ∧ F (i * 2 + 1) = .string (V i))) (fun i _ => n - (intOf i).toNat)
  case atStart => exact ⟨0, _, Nat.zero_le _, rfl, HM.out, HB.out, fun i hi => absurd hi (by omega)⟩
  case round =>
    clear HM HB
    obtain ⟨j, F, hj, rfl, HR⟩ := hrel
    by_cases hlt : j < n
    · have c1 : wr.cell? ⟨g, o + j * 2, none⟩ = some (.string (K j)) := by rw [HR.out.2.1.cell (p := ⟨g, o + j * 2, none⟩) hg]; exact (HA.out j hlt).1
      have c2 : wr.cell? ⟨g, o + j * 2 + 1, none⟩ = some (.string (V j)) := by rw [HR.out.2.1.cell (p := ⟨g, o + j * 2 + 1, none⟩) hg]; exact (HA.out j hlt).2
      have h0 : (0 : Int) ≤ (j : Int) := by omega
      have h1 : (j : Int) < (n : Int) := by omega
      go_wp2_with fail
      refine (toHead_any (K j) (V j) wr).mono ?_
      rintro e w1 ⟨rfl, b1⟩
      have M1 : Hid (Mine w1 116 2 w.heap.size n F) := HR.out.1.below b1 HR.out.1.lt
      have B1 := Seg.hid (HR.out.2.1.trans (b1.mono HR.out.2.1.size))
      clear b1
      have d1 := M1.out.cell (j * 2) (by omega)
      have d2 := M1.out.cell (j * 2 + 1) (by omega)
      have f1 := M1.out.frozen (j * 2)
      have f2 := M1.out.frozen (j * 2 + 1)
      have M2 := Seg.hid ((M1.out.set (j * 2) (.string (K j))).set (j * 2 + 1) (.string (V j)))
      have B2 := Seg.hid ((B1.out.setCell (p := ⟨w.heap.size, j * 2, none⟩) (Nat.le_refl _) (.string (K j))).setCell (p := ⟨w.heap.size, j * 2 + 1, none⟩) (Nat.le_refl _) (.string (V j)))
      go_wp2
      go_roundw
      case rel =>
        refine ⟨j + 1, _, by omega, by go_num, M2.out, B2.out, fun i hi => ?_⟩
        have hr := HR.out.2.2
        by_cases he : i = j
        · subst he; simp
        · have := hr i (by omega)
          simp [show ¬ i * 2 = j * 2 + 1 by omega, show ¬ i * 2 = j * 2 by omega, show ¬ i * 2 + 1 = j * 2 by omega, this]
      case measure => simp [intOf]; omega
    · have : j = n := by omega
      subst this
      go_wp2
      go_ret
      exact ⟨_, rfl, HR.out.1.row (by omega) HR.out.1.lt (Nat.le_refl _) (fun i hi q hq => row2 (HR.out.2.2 i hi) q hq), HR.out.2.1⟩

set_option maxHeartbeats 400000 in
theorem toHeadS_none (A : Option Addr) (c : Nat) (w : World) :
    Calls Try.prog 105 #[.slice A 0 c] w fun e w' => ∃ v, e = .returned v ∧ (∃ A c, v = .slice A 0 c) ∧ Below w.heap.size w w' := by
  obtain ⟨i0, hi, hz0, hz1, hz2⟩ := info_parts info2
  go_enter Try.func105, Try.ntmps105
  go_wp2_with (at_make; refine wpList_make_full _ rfl _ _ 86 rfl w.heap.size 116 i0 _ 2 Try.underlying86 hi hz0 hz1 .i64 .i64 _ _ 0 rfl rfl rfl rfl (by omega) (by unfold maxLen; omega) (Nat.le_refl _) ?_; intro w1 hown hgr)
  have hb1 := (Below.refl w.heap.size w).grown hgr (Nat.le_refl _) (fun k hk => by cases hk)
  have HB := Seg.hid hb1
  clear hown hgr hb1 hi hz0 hz1 hz2
  go_loop [4] (fun i => i = .int .i64 0) (fun i => 0)
  case atStart => rfl
  case round =>
    subst hrel
    go_wp2
    go_ret
    exact ⟨_, rfl, ⟨_, _, rfl⟩, HB.out⟩

theorem toHeadS_any (v : Value) (hs : List Hd) (w : World) (lo b : Nat) (hv : Heads w lo b v hs) (hb : b ≤ w.heap.size) (hl : hs.length ≤ 1048576) :
    Calls Try.prog 105 #[v] w fun e w' => ∃ v', e = .returned v' ∧ Heads w' w.heap.size w'.heap.size v' hs ∧ Below w.heap.size w w' := by
  obtain ⟨hn, A, c, rfl, h⟩ := hv
  by_cases hz : hs.length = 0
  · rw [hz]
    refine (toHeadS_none A c w).mono fun e w' ⟨v', a1, ⟨A', c', a2⟩, a3⟩ => ⟨v', a1, ⟨hn, A', c', ?_, .inl hz⟩, a3⟩
    rw [a2, hz]
  obtain ⟨g, o, rfl, hg, hc, hcell, _⟩ := h.resolve_left hz
  exact toHeadS_core g o hs.length c (fun i => (hs.getD i default).key) (fun i => (hs.getD i default).val) w hl hc (by omega) (fun i hi => Heads.cell0 hcell i hi)

theorem eqHeadS_none (A A' : Option Addr) (c c' : Nat) (w : World) :
    Calls Try.prog 97 #[.slice A 0 c, .slice A' 0 c'] w fun e w' => e = .returned (.bool true) ∧ Below w.heap.size w w' := by
  go_enter Try.func97, Try.ntmps97
  go_wp2
  go_loop [5] (fun i => i = .int .i64 0) (fun _ => 0)
  case atStart => rfl
  case round =>
    subst hrel
    go_wp2
    go_ret
    exact ⟨rfl, Below.refl _ _⟩

set_option maxHeartbeats 400000 in
theorem eqHeadS_core (g o g' o' n c c' : Nat) (K V : Nat → ByteArray) (w : World) (hn : n ≤ 9223372036854775807) (hc : n ≤ c) (hc' : n ≤ c') (hg : g < w.heap.size) (hg' : g' < w.heap.size)
    (ha : ∀ i, i < n → w.cell? ⟨g, o + i * 2, none⟩ = some (.string (K i)) ∧ w.cell? ⟨g, o + i * 2 + 1, none⟩ = some (.string (V i)))
    (ha' : ∀ i, i < n → w.cell? ⟨g', o' + i * 2, none⟩ = some (.string (K i)) ∧ w.cell? ⟨g', o' + i * 2 + 1, none⟩ = some (.string (V i))) :
    Calls Try.prog 97 #[.slice (some ⟨g, o, none⟩) n c, .slice (some ⟨g', o', none⟩) n c'] w fun e w' => e = .returned (.bool true) ∧ Below w.heap.size w w' := by
  have HA := Seg.hid ha; have HA' := Seg.hid ha'
  clear ha ha'
  go_enter Try.func97, Try.ntmps97
  go_wp2
  go_loopw [5] (fun i wr => ∃ (k : Nat), k ≤ n ∧ i = .int .i64 k ∧ Hid (Below w.heap.size w wr)) (fun i _ => n - (intOf i).toNat)
  case atStart => exact ⟨0, Nat.zero_le _, rfl, Below.refl _ _⟩
  case round =>
    obtain ⟨k, hk, rfl, HB⟩ := hrel
    by_cases hlt2 : k < n
    · have c1 : wr.cell? ⟨g, o + k * 2, none⟩ = some (.string (K k)) := by rw [HB.out.cell (p := ⟨g, o + k * 2, none⟩) hg]; exact (HA.out k hlt2).1
      have c2 : wr.cell? ⟨g, o + k * 2 + 1, none⟩ = some (.string (V k)) := by rw [HB.out.cell (p := ⟨g, o + k * 2 + 1, none⟩) hg]; exact (HA.out k hlt2).2
      have c3 : wr.cell? ⟨g', o' + k * 2, none⟩ = some (.string (K k)) := by rw [HB.out.cell (p := ⟨g', o' + k * 2, none⟩) hg']; exact (HA'.out k hlt2).1
      have c4 : wr.cell? ⟨g', o' + k * 2 + 1, none⟩ = some (.string (V k)) := by rw [HB.out.cell (p := ⟨g', o' + k * 2 + 1, none⟩) hg']; exact (HA'.out k hlt2).2
      have h0 : (0 : Int) ≤ (k : Int) := by omega
      have h1 : (k : Int) < (n : Int) := by omega
      go_wp2_with fail
      go_region_with (go_at_call 101; refine (eqHead_any _ _ _).mono ?_; rintro e w1 ⟨rfl, b1⟩; have B1 : Hid (Below w.heap.size w w1) := chainD HB.out b1; clear b1)
      all_goals
        go_wp2
        go_roundw
        case rel => exact ⟨k + 1, by omega, by go_num, B1.out⟩
        case measure => simp [intOf]; omega
    · have : k = n := by omega
      subst this
      go_wp2
      go_ret
      exact ⟨rfl, HB.out⟩

theorem eqHeadS_any (v v' : Value) (hs : List Hd) (w : World) (lo lo' b : Nat) (hv : Heads w lo b v hs) (hv' : Heads w lo' b v' hs) (hb : b ≤ w.heap.size) :
    Calls Try.prog 97 #[v, v'] w fun e w' => e = .returned (.bool true) ∧ Below w.heap.size w w' := by
  obtain ⟨hn, A, c, rfl, h⟩ := hv
  obtain ⟨_, A', c', rfl, h'⟩ := hv'
  by_cases hz : hs.length = 0
  · rw [hz]
    exact eqHeadS_none A A' c c' w
  obtain ⟨g, o, rfl, hg, hc, hcell, _⟩ := h.resolve_left hz
  obtain ⟨g', o', rfl, hg', hc', hcell', _⟩ := h'.resolve_left hz
  exact eqHeadS_core g o g' o' hs.length c c' (fun i => (hs.getD i default).key) (fun i => (hs.getD i default).val) w hn hc hc' (by omega) (by omega) (fun i hi => Heads.cell0 hcell i hi) (fun i hi => Heads.cell0 hcell' i hi)
end Go.Proofs.Yticihnoekffelaa.Sz
