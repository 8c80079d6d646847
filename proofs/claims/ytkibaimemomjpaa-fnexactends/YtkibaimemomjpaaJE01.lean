/- A run of bytes in memory, and what keeps it; Heads, records and batches: as plain data, and how they lie in memory. -/
import Derived.WalkKit
import Derived.Laws.OwnMore
import Derived.Deep.Draws
import Derived.OpenShut
import Derived.Deep.Slices
namespace Go.Proofs.Ytkibaimemomjpaa.Seg
set_option maxRecDepth 8000
open Go.RowKit
def B (l : List Int) : List Value := l.map (Value.int .u8)
theorem hid {p : Prop} (h : p) : Hid p := h
theorem ret_int {k : IntKind} {a b : Int} (h : a = b) : Ending.returned (.int k a) = .returned (.int k b) := by rw [h]
theorem ret_bool {a b : Bool} (h : a = b) : Ending.returned (.bool a) = .returned (.bool b) := by rw [h]

/-- The value is a slice over just these bytes. -/
def Seg (w : World) (v : Value) (l : List Int) : Prop :=
  l.length ≤ 140737488355328 ∧ ((∃ A c, v = .slice A 0 c ∧ l = []) ∨ ∃ g o cap, v = .slice (some ⟨g, o, none⟩) l.length cap ∧ l.length ≤ cap ∧ cap ≤ maxLen ∧ ∀ i, i < l.length → w.cell? ⟨g, o + i, none⟩ = some (.int .u8 (l.getD i 0)))

/-- The value is a slice of its own block, over just these bytes. -/
def Own (w : World) (base e : Nat) (v : Value) (l : List Int) : Prop :=
  l.length ≤ 140737488355328 ∧ ∃ g cap, v = .slice (some ⟨g, 0, none⟩) l.length cap ∧ w.ownsRow base e 1 (.slice (some ⟨g, 0, none⟩) l.length cap) l.length (B l)

theorem owns_below {w w' : World} {base e size : Nat} {v : Value} {n : Nat} {xs : List Value} (h : w.ownsRow base e size v n xs) (hb : Below w.heap.size w w') : w'.ownsRow base e size v n xs := by
  refine ⟨h.1, ?_⟩
  rcases h.2 with hn | ⟨g, cap, cur, rfl, hbs, hgg, rest⟩
  · exact .inl hn
  · exact .inr ⟨g, cap, cur, rfl, hbs, by rw [hb.block g (Array.getElem?_eq_some_iff.1 hgg).1]; exact hgg, rest⟩
theorem Own.below {w w' : World} {base e : Nat} {v : Value} {l : List Int} (h : Own w base e v l) (hb : Below w.heap.size w w') : Own w' base e v l := by
  obtain ⟨h1, g, cap, h2, h3⟩ := h
  exact ⟨h1, g, cap, h2, owns_below h3 hb⟩
theorem Own.drewN {w : World} {base e : Nat} {v : Value} {l : List Int} (h : Own w base e v l) (n : Nat) : Own (w.drewN n) base e v l := h
theorem owns_cell {w : World} {base e g n cap : Nat} {l : List Int} (h : w.ownsRow base e 1 (.slice (some ⟨g, 0, none⟩) n cap) n (B l)) (i : Nat) (hi : i < n) : w.cell? ⟨g, i, none⟩ = some (.int .u8 (l.getD i 0)) := by
  have hl : l.length = n := by have := h.1; simpa [B] using this
  rw [h.cellAt i (by omega)]
  simp [B, hl, hi]
theorem owns_cap {w : World} {base e g n cap : Nat} {l : List Value} (h : w.ownsRow base e 1 (.slice (some ⟨g, 0, none⟩) n cap) n l) : n ≤ cap ∧ cap ≤ maxLen ∧ base ≤ g ∧ g < w.heap.size := by
  rcases h.2 with ⟨h', _⟩ | ⟨g', cap', cur, h', hb, hg, hnc, hcm, hcs, htake⟩
  · simp at h'
  · simp only [Value.slice.injEq, Option.some.injEq, Addr.mk.injEq, and_true, true_and] at h'
    obtain ⟨rfl, rfl⟩ := h'
    exact ⟨hnc, hcm, hb, (Array.getElem?_eq_some_iff.1 hg).1⟩
theorem Own.seg {w : World} {base e : Nat} {v : Value} {l : List Int} (h : Own w base e v l) : Seg w v l := by
  obtain ⟨h1, g, cap, h2, h3⟩ := h
  have hc := owns_cap h3
  exact ⟨h1, .inr ⟨g, 0, cap, h2, hc.1, hc.2.1, fun i hi => by rw [Nat.zero_add]; exact owns_cell h3 i hi⟩⟩
theorem Seg.below {w w' : World} {B : Nat} {v : Value} {l : List Int} (h : Seg w v l) (hb : Below B w w') (hv : ∀ g, v.ownBlock = some g → g < B) : Seg w' v l := by
  obtain ⟨h1, h⟩ := h
  refine ⟨h1, ?_⟩
  rcases h with ⟨A, c, rfl, rfl⟩ | ⟨g, o, cap, rfl, h2, h3, h4⟩
  · exact .inl ⟨A, c, rfl, rfl⟩
  · exact .inr ⟨g, o, cap, rfl, h2, h3, fun i hi => by rw [hb.cell (p := ⟨g, o + i, none⟩) (hv g rfl)]; exact h4 i hi⟩
theorem Seg.drewN {w : World} {v : Value} {l : List Int} (h : Seg w v l) (n : Nat) : Seg (w.drewN n) v l := h

/-- The marks that a slice of n bytes bears from k on. -/
def marks (k : Int) (n : Nat) : List Int := (List.range n).map fun (i : Nat) => (k + (i : Int)) % 256
theorem marks_len (k : Int) (n : Nat) : (marks k n).length = n := by simp [marks]
theorem marks_get (k : Int) (n i : Nat) (h : i < n) : (marks k n).getD i 0 = (k + (i : Int)) % 256 := by simp [marks, h]
theorem marks_succ (k : Int) (n : Nat) : marks k (n + 1) = marks k n ++ [(k + (n : Int)) % 256] := by simp [marks, List.range_succ]
theorem marks_set (k : Int) (j : Nat) (l : List Int) (h : j < l.length) : (marks k j ++ l.drop j).set j ((k + (j : Int)) % 256) = marks k (j + 1) ++ l.drop (j + 1) := by
  rw [List.set_append_right _ _ (by simp [marks_len]), marks_len, Nat.sub_self, List.drop_eq_getElem_cons h, List.set_cons_zero, marks_succ]
  simp

theorem eq_cut {l m : List Int} (h : l.length = m.length) : decide (l = m) = decide (∀ i, i < l.length → l.getD i 0 = m.getD i 0) := by
  rw [decide_eq_decide]
  constructor
  · rintro rfl i _; rfl
  · intro hh
    refine List.ext_getElem h fun i h1 h2 => ?_
    have := hh i h1
    simpa [h1, h2] using this
theorem eq_len {l m : List Int} (h : ¬ l.length = m.length) : decide (l = m) = false := by
  simp only [decide_eq_false_iff_not]; rintro rfl; exact h rfl
theorem eq_at {l m : List Int} {i : Nat} (h : ¬ l.getD i 0 = m.getD i 0) : decide (l = m) = false := by
  simp only [decide_eq_false_iff_not]; rintro rfl; exact h rfl
/-- Each is a byte. -/
def Byt (l : List Int) : Prop := ∀ i, 0 ≤ l.getD i 0 ∧ l.getD i 0 < 256
theorem byt_of {l : List Int} (h : ∀ n ∈ l, 0 ≤ n ∧ n < 256) : Byt l := fun i => by
  by_cases hi : i < l.length
  · have := h l[i] (List.getElem_mem hi)
    simpa [hi] using this
  · simp [List.getElem?_eq_none (Nat.le_of_not_lt hi)]

/-- What the frame tells of a slice that came in, as a run of bytes. -/
theorem row_seg (w : World) (a : Option Addr) (len cap : Nat) (zs : List Int)
    (h : (a = none ∧ len = 0 ∧ cap = 0 ∧ zs = []) ∨ ∃ x, a = some x ∧ len ≤ cap ∧ cap ≤ maxLen ∧ zs.length = cap ∧ (∀ i, i < zs.length → w.cell? (x.add i) = some (.int .u8 (zs.getD i 0))) ∧ ∀ n ∈ zs, (Lit.int .u8 n).wf = true)
    (hl : len ≤ 140737488355328) : ∃ l : List Int, l.length = len ∧ Seg w (.slice a len cap) l ∧ Byt l ∧ (len = 0 ∨ ∀ g, (Value.slice a len cap).ownBlock = some g → g < w.heap.size) := by
  rcases h with ⟨rfl, rfl, rfl, rfl⟩ | ⟨x, rfl, h1, h2, h3, h4, h5⟩
  · exact ⟨[], rfl, ⟨by simp, .inl ⟨none, 0, rfl, rfl⟩⟩, fun i => by simp, .inl rfl⟩
  · by_cases hz : len = 0
    · subst hz
      exact ⟨[], rfl, ⟨by simp, .inl ⟨some x, cap, rfl, rfl⟩⟩, fun i => by simp, .inl rfl⟩
    · have hlen : (zs.take len).length = len := by simp; omega
      obtain ⟨b, off, spot⟩ := x
      have hc := h4 0 (by omega)
      have hspot : spot = none := by simpa [Addr.add] using World.cell?_spot hc
      subst hspot
      have hlt : b < w.heap.size := by have := World.block_lt_of_cell? w _ hc; simpa [Addr.add] using this
      refine ⟨zs.take len, hlen, ⟨by omega, .inr ⟨b, off, cap, by rw [hlen], by omega, h2, fun i hi => ?_⟩⟩, byt_of fun n hn => ?_, .inr fun g hg => by simp [Value.ownBlock] at hg; omega⟩
      · have := h4 i (by omega)
        rw [show (⟨b, off, none⟩ : Addr).add i = ⟨b, off + i, none⟩ by simp [Addr.add]] at this
        rw [this]
        have hi2 : i < len := by omega
        simp [List.getD_eq_getElem?_getD, hi2]
      · have := h5 n (List.mem_of_mem_take hn)
        have := bounds_u8 this
        omega
end Go.Proofs.Ytkibaimemomjpaa.Seg
namespace Go.Proofs.Ytkibaimemomjpaa.Recs
set_option maxRecDepth 8000
open Go.RowKit

structure Hd where
  key : ByteArray
  val : ByteArray
  deriving Inhabited
structure Rec where
  time : Int
  keyed : Bool
  key : ByteArray
  gone : Bool
  val : ByteArray
  heads : List Hd
  deriving Inhabited
structure Bat where
  base : Int
  epoch : Int
  producer : Int
  turn : Int
  seq : Int
  flags : Int
  recs : List Rec
  deriving Inhabited

/-- A slice of n elements of s cells each, in a block from lo on, below block b: cell j of element i holds 'f i j'. -/
def Row (w : World) (lo b s : Nat) (v : Value) (n : Nat) (f : Nat → Nat → Value) : Prop :=
  n ≤ 9223372036854775807 ∧ ∃ A c, v = .slice A n c ∧ (n = 0 ∨ ∃ g o, A = some ⟨g, o, none⟩ ∧ g < b ∧ n ≤ c ∧ (∀ i, i < n → ∀ j, j < s → w.cell? ⟨g, o + i * s + j, none⟩ = some (f i j)) ∧ lo ≤ g)
theorem hsz (w : World) (o : Obj) : (w.alloc o).heap.size = w.heap.size + 1 := by show (w.heap.push o).size = _; simp
theorem chain {w wr w1 : World} (h : Below w.heap.size w wr) (b1 : Below wr.heap.size wr w1) : Below w.heap.size w w1 := h.trans (b1.mono h.size)
theorem chainD {w wr w1 : World} (h : Below w.heap.size w wr) (b1 : Below wr.drew.heap.size wr.drew w1) : Below w.heap.size w w1 := h.drew.trans (b1.mono h.size)
theorem below1 (w : World) (a : Obj) : Below w.heap.size w (w.alloc a) := (Below.refl _ w).alloc (Nat.le_refl _) _
theorem below2 (w : World) (a b : Obj) : Below w.heap.size w ((w.alloc a).alloc b) := (below1 w a).alloc (by rw [hsz]; omega) _
theorem below3 (w : World) (a b c : Obj) : Below w.heap.size w (((w.alloc a).alloc b).alloc c) := (below2 w a b).alloc (by rw [hsz, hsz]; omega) _
theorem at3 (w : World) (a b c : Obj) : (((w.alloc a).alloc b).alloc c).heap[w.heap.size + 1]? = some b := by
  show (((w.heap.push a).push b).push c)[w.heap.size + 1]? = some b
  rw [Array.getElem?_push, if_neg (by simp), Array.getElem?_push, if_pos (by simp)]
theorem Row.keep {w w' : World} {lo b s n : Nat} {v : Value} {f : Nat → Nat → Value} (h : Row w lo b s v n f) (hk : ∀ g, lo ≤ g → g < b → w'.heap[g]? = w.heap[g]?) : Row w' lo b s v n f := by
  obtain ⟨hn, A, c, h1, h2⟩ := h
  refine ⟨hn, A, c, h1, h2.imp id ?_⟩
  rintro ⟨g, o, h3, h4, h5, h6, h7⟩
  exact ⟨g, o, h3, h4, h5, fun i hi j hj => by rw [World.cell?_of_block (w := w) (a := ⟨g, o + i * s + j, none⟩) (hk g h7 h4)]; exact h6 i hi j hj, h7⟩
theorem Row.below {w w' : World} {lo b s n : Nat} {v : Value} {f : Nat → Nat → Value} (h : Row w lo b s v n f) (hb : Below b w w') : Row w' lo b s v n f := h.keep fun g _ hg => hb.block g hg
theorem Row.mono {w : World} {lo lo' b b' s n : Nat} {v : Value} {f : Nat → Nat → Value} (h : Row w lo b s v n f) (hl : lo' ≤ lo) (hb : b ≤ b') : Row w lo' b' s v n f := by
  obtain ⟨hn, A, c, h1, h2⟩ := h
  refine ⟨hn, A, c, h1, h2.imp id ?_⟩
  rintro ⟨g, o, h3, h4, h5, h6, h7⟩
  exact ⟨g, o, h3, Nat.lt_of_lt_of_le h4 hb, h5, h6, Nat.le_trans hl h7⟩
theorem Row.drewN {w : World} {lo b s n : Nat} {v : Value} {f : Nat → Nat → Value} (h : Row w lo b s v n f) (k : Nat) : Row (w.drewN k) lo b s v n f := h

/-- Block g is a row that the call made itself, of n elements of s cells; cell q holds 'F q'. -/
def Mine (w : World) (e s g n : Nat) (F : Nat → Value) : Prop := w.ownsRow g e s (.slice (some ⟨g, 0, none⟩) n n) n ((List.range (n * s)).map F)
theorem Mine.of_made {w : World} {e s g n : Nat} {xs : List Value} (h : w.ownsRow g e s (.slice (some ⟨g, 0, none⟩) n n) n xs) (hl : xs.length = n * s) : Mine w e s g n (fun q => xs.getD q default) := by
  have : (List.range (n * s)).map (fun q => xs.getD q default) = xs := List.ext_getElem (by simp [hl]) fun i h1 h2 => by simp [h2]
  unfold Mine
  rw [this]
  exact h
theorem Mine.cell {w : World} {e s g n : Nat} {F : Nat → Value} (h : Mine w e s g n F) (q : Nat) (hq : q < n * s) : w.cell? ⟨g, q, none⟩ = some (F q) := by
  have := World.ownsRow.cellAt h q hq
  rw [this]
  simp [hq]
theorem Mine.frozen {w : World} {e s g n : Nat} {F : Nat → Value} (h : Mine w e s g n F) (q : Nat) : w.frozen? ⟨g, q, none⟩ = false := World.ownsRow.frozenAt h q
theorem Mine.lt {w : World} {e s g n : Nat} {F : Nat → Value} (h : Mine w e s g n F) : g < w.heap.size := by
  rcases h.2 with ⟨h', _⟩ | ⟨g', cap', cur, h', hb, hg, hnc, hcm, hcs, htake⟩
  · simp at h'
  · simp only [Value.slice.injEq, Option.some.injEq, Addr.mk.injEq, and_true, true_and] at h'
    obtain ⟨rfl, rfl⟩ := h'
    exact (Array.getElem?_eq_some_iff.1 hg).1
theorem Mine.set {w : World} {e s g n : Nat} {F : Nat → Value} (h : Mine w e s g n F) (q : Nat) (v : Value) : Mine (w.setCell ⟨g, q, none⟩ v) e s g n (fun i => if i = q then v else F i) := by
  have := (World.ownsRow.stored h q v).1
  have he : ((List.range (n * s)).map F).set q v = (List.range (n * s)).map (fun i => if i = q then v else F i) := List.ext_getElem (by simp) fun i h1 h2 => by
    by_cases hi : i = q
    · subst hi; simp
    · rw [List.getElem_set_ne (by omega)]; simp [hi]
  rw [he] at this
  exact this
theorem Mine.below {w w' : World} {e s g n b : Nat} {F : Nat → Value} (h : Mine w e s g n F) (hb : Below b w w') (hg : g < b) : Mine w' e s g n F := by
  refine ⟨h.1, ?_⟩
  rcases h.2 with hn | ⟨g', cap, cur, h', hbs, hgg, rest⟩
  · exact .inl hn
  · have h'' := h'
    simp only [Value.slice.injEq, Option.some.injEq, Addr.mk.injEq, and_true, true_and] at h''
    obtain ⟨rfl, rfl⟩ := h''
    exact .inr ⟨g, n, cur, h', hbs, by rw [hb.block g hg]; exact hgg, rest⟩
theorem Mine.row {w : World} {e s g n lo b : Nat} {F : Nat → Value} {f : Nat → Nat → Value} (h : Mine w e s g n F) (hn : n ≤ 9223372036854775807) (hb : g < b) (hlo : lo ≤ g) (hf : ∀ i, i < n → ∀ j, j < s → F (i * s + j) = f i j) :
    Row w lo b s (.slice (some ⟨g, 0, none⟩) n n) n f :=
  ⟨hn, _, _, rfl, .inr ⟨g, 0, rfl, hb, Nat.le_refl _, fun i hi j hj => by
    have hq : i * s + j < n * s := by
      have : (i + 1) * s ≤ n * s := Nat.mul_le_mul_right s hi
      rw [Nat.succ_mul] at this
      omega
    rw [Nat.zero_add, h.cell _ hq, hf i hi j hj], hlo⟩⟩

def hdCells (hs : List Hd) (i j : Nat) : Value := if j = 0 then .string (hs.getD i default).key else .string (hs.getD i default).val
def Heads (w : World) (lo b : Nat) (v : Value) (hs : List Hd) : Prop := Row w lo b 2 v hs.length (hdCells hs)
def recVal (r : Rec) (hv : Value) : Value := .agg #[.int .i64 r.time, .bool r.keyed, .string r.key, .bool r.gone, .string r.val, hv]
/-- The value is this record. -/
def RecAt (w : World) (lo b : Nat) (v : Value) (r : Rec) : Prop := ∃ hv, v = recVal r hv ∧ Heads w lo b hv r.heads
def recCells (rs : List Rec) (H : Nat → Value) (i j : Nat) : Value :=
  if j = 0 then .int .i64 (rs.getD i default).time else if j = 1 then .bool (rs.getD i default).keyed else if j = 2 then .string (rs.getD i default).key else if j = 3 then .bool (rs.getD i default).gone else
  if j = 4 then .string (rs.getD i default).val else H i
def RecsAt (w : World) (lo b : Nat) (v : Value) (rs : List Rec) : Prop := ∃ H : Nat → Value, Row w lo b 6 v rs.length (recCells rs H) ∧ ∀ i, i < rs.length → Heads w lo b (H i) (rs.getD i default).heads
def batVal (t : Bat) (rv : Value) : Value := .agg #[.int .i64 t.base, .int .i64 t.epoch, .int .i64 t.producer, .int .i64 t.turn, .int .i64 t.seq, .int .i64 t.flags, rv]
def BatAt (w : World) (lo b : Nat) (v : Value) (t : Bat) : Prop := ∃ rv, v = batVal t rv ∧ RecsAt w lo b rv t.recs

section
variable {w w' : World} {lo lo' b b' : Nat} {v : Value} {hs : List Hd} {r : Rec} {rs : List Rec} {t : Bat}
theorem Heads.keep (h : Heads w lo b v hs) (hk : ∀ g, lo ≤ g → g < b → w'.heap[g]? = w.heap[g]?) : Heads w' lo b v hs := Row.keep h hk
theorem Heads.below (h : Heads w lo b v hs) (hb : Below b w w') : Heads w' lo b v hs := Row.below h hb
theorem Heads.mono (h : Heads w lo b v hs) (hl : lo' ≤ lo) (hb : b ≤ b') : Heads w lo' b' v hs := Row.mono h hl hb
theorem Heads.drewN (h : Heads w lo b v hs) (k : Nat) : Heads (w.drewN k) lo b v hs := h
theorem RecAt.keep (h : RecAt w lo b v r) (hk : ∀ g, lo ≤ g → g < b → w'.heap[g]? = w.heap[g]?) : RecAt w' lo b v r := by
  obtain ⟨hv, h1, h2⟩ := h
  exact ⟨hv, h1, h2.keep hk⟩
theorem RecAt.below (h : RecAt w lo b v r) (hb : Below b w w') : RecAt w' lo b v r := h.keep fun g _ hg => hb.block g hg
theorem RecAt.mono (h : RecAt w lo b v r) (hl : lo' ≤ lo) (hb : b ≤ b') : RecAt w lo' b' v r := by
  obtain ⟨hv, h1, h2⟩ := h
  exact ⟨hv, h1, h2.mono hl hb⟩
theorem RecsAt.keep (h : RecsAt w lo b v rs) (hk : ∀ g, lo ≤ g → g < b → w'.heap[g]? = w.heap[g]?) : RecsAt w' lo b v rs := by
  obtain ⟨H, h1, h2⟩ := h
  exact ⟨H, h1.keep hk, fun i hi => (h2 i hi).keep hk⟩
theorem RecsAt.below (h : RecsAt w lo b v rs) (hb : Below b w w') : RecsAt w' lo b v rs := h.keep fun g _ hg => hb.block g hg
theorem RecsAt.mono (h : RecsAt w lo b v rs) (hl : lo' ≤ lo) (hb : b ≤ b') : RecsAt w lo' b' v rs := by
  obtain ⟨H, h1, h2⟩ := h
  exact ⟨H, h1.mono hl hb, fun i hi => (h2 i hi).mono hl hb⟩
theorem RecsAt.drewN (h : RecsAt w lo b v rs) (k : Nat) : RecsAt (w.drewN k) lo b v rs := h
theorem BatAt.keep (h : BatAt w lo b v t) (hk : ∀ g, lo ≤ g → g < b → w'.heap[g]? = w.heap[g]?) : BatAt w' lo b v t := by
  obtain ⟨hv, h1, h2⟩ := h
  exact ⟨hv, h1, h2.keep hk⟩
theorem BatAt.below (h : BatAt w lo b v t) (hb : Below b w w') : BatAt w' lo b v t := h.keep fun g _ hg => hb.block g hg
theorem BatAt.mono (h : BatAt w lo b v t) (hl : lo' ≤ lo) (hb : b ≤ b') : BatAt w lo' b' v t := by
  obtain ⟨hv, h1, h2⟩ := h
  exact ⟨hv, h1, h2.mono hl hb⟩
end

/-- Every text is one that memory holds. -/
def FineH (h : Hd) : Prop := h.key.size ≤ maxLen ∧ h.val.size ≤ maxLen
def FineR (r : Rec) : Prop := r.key.size ≤ maxLen ∧ r.val.size ≤ maxLen ∧ r.heads.length ≤ maxLen ∧ ∀ i, i < r.heads.length → FineH (r.heads.getD i default)
def FineB (t : Bat) : Prop := t.recs.length ≤ maxLen ∧ ∀ i, i < t.recs.length → FineR (t.recs.getD i default)
/-- .. and has few enough elements. -/
def FewR (r : Rec) : Prop := r.heads.length ≤ 1048576
def FewB (t : Bat) : Prop := t.recs.length ≤ 1048576 ∧ ∀ i, i < t.recs.length → FewR (t.recs.getD i default)

theorem Heads.cell0 {w : World} {g o n : Nat} {hs : List Hd} (h : ∀ i, i < n → ∀ j, j < 2 → w.cell? ⟨g, o + i * 2 + j, none⟩ = some (hdCells hs i j)) (i : Nat) (hi : i < n) :
    w.cell? ⟨g, o + i * 2, none⟩ = some (.string (hs.getD i default).key) ∧ w.cell? ⟨g, o + i * 2 + 1, none⟩ = some (.string (hs.getD i default).val) := ⟨h i hi 0 (by omega), h i hi 1 (by omega)⟩
end Go.Proofs.Ytkibaimemomjpaa.Recs
