/- Heads, records and batches: as plain data, and how they lie in memory; A block's cells written one behind the other: what the block then is. -/
import Derived.Deep.Slices
import Derived.Laws.Rows
import Derived.Deep.MidRow
import Derived.Test.YtkohhcjpjloaaaaJW01
namespace Go.Proofs.Ytkohhcjpjloaaaa.Recs
set_option maxRecDepth 8000
open Go.RowKit

structure Hd where
  key : ByteArray
  val : ByteArray
  deriving Inhabited
structure Rec where
  time : Int
  keyed : Bool
  key : ByteArray
  gone : Bool
  val : ByteArray
  heads : List Hd
  deriving Inhabited
structure Bat where
  base : Int
  epoch : Int
  producer : Int
  turn : Int
  seq : Int
  flags : Int
  recs : List Rec
  deriving Inhabited

/-- A slice of n elements of s cells each, in a block from lo on, below block b: cell j of element i holds 'f i j'. -/
def Row (w : World) (lo b s : Nat) (v : Value) (n : Nat) (f : Nat → Nat → Value) : Prop :=
  n ≤ 9223372036854775807 ∧ ∃ A c, v = .slice A n c ∧ (n = 0 ∨ ∃ g o, A = some ⟨g, o, none⟩ ∧ g < b ∧ n ≤ c ∧ (∀ i, i < n → ∀ j, j < s → w.cell? ⟨g, o + i * s + j, none⟩ = some (f i j)) ∧ lo ≤ g)
theorem hsz (w : World) (o : Obj) : (w.alloc o).heap.size = w.heap.size + 1 := by show (w.heap.push o).size = _; simp
theorem chain {w wr w1 : World} (h : Below w.heap.size w wr) (b1 : Below wr.heap.size wr w1) : Below w.heap.size w w1 := h.trans (b1.mono h.size)
theorem chainD {w wr w1 : World} (h : Below w.heap.size w wr) (b1 : Below wr.drew.heap.size wr.drew w1) : Below w.heap.size w w1 := h.drew.trans (b1.mono h.size)
theorem below1 (w : World) (a : Obj) : Below w.heap.size w (w.alloc a) := (Below.refl _ w).alloc (Nat.le_refl _) _
theorem below2 (w : World) (a b : Obj) : Below w.heap.size w ((w.alloc a).alloc b) := (below1 w a).alloc (by rw [hsz]; omega) _
theorem below3 (w : World) (a b c : Obj) : Below w.heap.size w (((w.alloc a).alloc b).alloc c) := (below2 w a b).alloc (by rw [hsz, hsz]; omega) _
theorem at3 (w : World) (a b c : Obj) : (((w.alloc a).alloc b).alloc c).heap[w.heap.size + 1]? = some b := by
  show (((w.heap.push a).push b).push c)[w.heap.size + 1]? = some b
  rw [Array.getElem?_push, if_neg (by simp), Array.getElem?_push, if_pos (by simp)]
theorem Row.keep {w w' : World} {lo b s n : Nat} {v : Value} {f : Nat → Nat → Value} (h : Row w lo b s v n f) (hk : ∀ g, lo ≤ g → g < b → w'.heap[g]? = w.heap[g]?) : Row w' lo b s v n f := by
  obtain ⟨hn, A, c, h1, h2⟩ := h
  refine ⟨hn, A, c, h1, h2.imp id ?_⟩
  rintro ⟨g, o, h3, h4, h5, h6, h7⟩
  exact ⟨g, o, h3, h4, h5, fun i hi j hj => by rw [World.cell?_of_block (w := w) (a := ⟨g, o + i * s + j, none⟩) (hk g h7 h4)]; exact h6 i hi j hj, h7⟩
theorem Row.below {w w' : World} {lo b s n : Nat} {v : Value} {f : Nat → Nat → Value} (h : Row w lo b s v n f) (hb : Below b w w') : Row w' lo b s v n f := h.keep fun g _ hg => hb.block g hg
theorem Row.mono {w : World} {lo lo' b b' s n : Nat} {v : Value} {f : Nat → Nat → Value} (h : Row w lo b s v n f) (hl : lo' ≤ lo) (hb : b ≤ b') : Row w lo' b' s v n f := by
  obtain ⟨hn, A, c, h1, h2⟩ := h
  refine ⟨hn, A, c, h1, h2.imp id ?_⟩
  rintro ⟨g, o, h3, h4, h5, h6, h7⟩
  exact ⟨g, o, h3, Nat.lt_of_lt_of_le h4 hb, h5, h6, Nat.le_trans hl h7⟩
theorem Row.drewN {w : World} {lo b s n : Nat} {v : Value} {f : Nat → Nat → Value} (h : Row w lo b s v n f) (k : Nat) : Row (w.drewN k) lo b s v n f := h

/-- Block g is a row that the call made itself, of n elements of s cells; cell q holds 'F q'. -/
def Mine (w : World) (e s g n : Nat) (F : Nat → Value) : Prop := w.ownsRow g e s (.slice (some ⟨g, 0, none⟩) n n) n ((List.range (n * s)).map F)
theorem Mine.of_made {w : World} {e s g n : Nat} {xs : List Value} (h : w.ownsRow g e s (.slice (some ⟨g, 0, none⟩) n n) n xs) (hl : xs.length = n * s) : Mine w e s g n (fun q => xs.getD q default) := by
  have : (List.range (n * s)).map (fun q => xs.getD q default) = xs := List.ext_getElem (by simp [hl]) fun i h1 h2 => by simp [h2]
  unfold Mine
  rw [this]
  exact h
theorem Mine.cell {w : World} {e s g n : Nat} {F : Nat → Value} (h : Mine w e s g n F) (q : Nat) (hq : q < n * s) : w.cell? ⟨g, q, none⟩ = some (F q) := by
  have := World.ownsRow.cellAt h q hq
  rw [this]
  simp [hq]
theorem Mine.frozen {w : World} {e s g n : Nat} {F : Nat → Value} (h : Mine w e s g n F) (q : Nat) : w.frozen? ⟨g, q, none⟩ = false := World.ownsRow.frozenAt h q
theorem Mine.lt {w : World} {e s g n : Nat} {F : Nat → Value} (h : Mine w e s g n F) : g < w.heap.size := by
  rcases h.2 with ⟨h', _⟩ | ⟨g', cap', cur, h', hb, hg, hnc, hcm, hcs, htake⟩
  · simp at h'
  · simp only [Value.slice.injEq, Option.some.injEq, Addr.mk.injEq, and_true, true_and] at h'
    obtain ⟨rfl, rfl⟩ := h'
    exact (Array.getElem?_eq_some_iff.1 hg).1
theorem Mine.set {w : World} {e s g n : Nat} {F : Nat → Value} (h : Mine w e s g n F) (q : Nat) (v : Value) : Mine (w.setCell ⟨g, q, none⟩ v) e s g n (fun i => if i = q then v else F i) := by
  have := (World.ownsRow.stored h q v).1
  have he : ((List.range (n * s)).map F).set q v = (List.range (n * s)).map (fun i => if i = q then v else F i) := List.ext_getElem (by simp) fun i h1 h2 => by
    by_cases hi : i = q
    · subst hi; simp
    · rw [List.getElem_set_ne (by omega)]; simp [hi]
  rw [he] at this
  exact this
theorem Mine.below {w w' : World} {e s g n b : Nat} {F : Nat → Value} (h : Mine w e s g n F) (hb : Below b w w') (hg : g < b) : Mine w' e s g n F := by
  refine ⟨h.1, ?_⟩
  rcases h.2 with hn | ⟨g', cap, cur, h', hbs, hgg, rest⟩
  · exact .inl hn
  · have h'' := h'
    simp only [Value.slice.injEq, Option.some.injEq, Addr.mk.injEq, and_true, true_and] at h''
    obtain ⟨rfl, rfl⟩ := h''
    exact .inr ⟨g, n, cur, h', hbs, by rw [hb.block g hg]; exact hgg, rest⟩
theorem Mine.row {w : World} {e s g n lo b : Nat} {F : Nat → Value} {f : Nat → Nat → Value} (h : Mine w e s g n F) (hn : n ≤ 9223372036854775807) (hb : g < b) (hlo : lo ≤ g) (hf : ∀ i, i < n → ∀ j, j < s → F (i * s + j) = f i j) :
    Row w lo b s (.slice (some ⟨g, 0, none⟩) n n) n f :=
  ⟨hn, _, _, rfl, .inr ⟨g, 0, rfl, hb, Nat.le_refl _, fun i hi j hj => by
    have hq : i * s + j < n * s := by
      have : (i + 1) * s ≤ n * s := Nat.mul_le_mul_right s hi
      rw [Nat.succ_mul] at this
      omega
    rw [Nat.zero_add, h.cell _ hq, hf i hi j hj], hlo⟩⟩

def hdCells (hs : List Hd) (i j : Nat) : Value := if j = 0 then .string (hs.getD i default).key else .string (hs.getD i default).val
def Heads (w : World) (lo b : Nat) (v : Value) (hs : List Hd) : Prop := Row w lo b 2 v hs.length (hdCells hs)
def recVal (r : Rec) (hv : Value) : Value := .agg #[.int .i64 r.time, .bool r.keyed, .string r.key, .bool r.gone, .string r.val, hv]
/-- The value is this record. -/
def RecAt (w : World) (lo b : Nat) (v : Value) (r : Rec) : Prop := ∃ hv, v = recVal r hv ∧ Heads w lo b hv r.heads
def recCells (rs : List Rec) (H : Nat → Value) (i j : Nat) : Value :=
  if j = 0 then .int .i64 (rs.getD i default).time else if j = 1 then .bool (rs.getD i default).keyed else if j = 2 then .string (rs.getD i default).key else if j = 3 then .bool (rs.getD i default).gone else
  if j = 4 then .string (rs.getD i default).val else H i
def RecsAt (w : World) (lo b : Nat) (v : Value) (rs : List Rec) : Prop := ∃ H : Nat → Value, Row w lo b 6 v rs.length (recCells rs H) ∧ ∀ i, i < rs.length → Heads w lo b (H i) (rs.getD i default).heads
def batVal (t : Bat) (rv : Value) : Value := .agg #[.int .i64 t.base, .int .i64 t.epoch, .int .i64 t.producer, .int .i64 t.turn, .int .i64 t.seq, .int .i64 t.flags, rv]
def BatAt (w : World) (lo b : Nat) (v : Value) (t : Bat) : Prop := ∃ rv, v = batVal t rv ∧ RecsAt w lo b rv t.recs

section
variable {w w' : World} {lo lo' b b' : Nat} {v : Value} {hs : List Hd} {r : Rec} {rs : List Rec} {t : Bat}
theorem Heads.keep (h : Heads w lo b v hs) (hk : ∀ g, lo ≤ g → g < b → w'.heap[g]? = w.heap[g]?) : Heads w' lo b v hs := Row.keep h hk
theorem Heads.below (h : Heads w lo b v hs) (hb : Below b w w') : Heads w' lo b v hs := Row.below h hb
theorem Heads.mono (h : Heads w lo b v hs) (hl : lo' ≤ lo) (hb : b ≤ b') : Heads w lo' b' v hs := Row.mono h hl hb
theorem Heads.drewN (h : Heads w lo b v hs) (k : Nat) : Heads (w.drewN k) lo b v hs := h
theorem RecAt.keep (h : RecAt w lo b v r) (hk : ∀ g, lo ≤ g → g < b → w'.heap[g]? = w.heap[g]?) : RecAt w' lo b v r := by
  obtain ⟨hv, h1, h2⟩ := h
  exact ⟨hv, h1, h2.keep hk⟩
theorem RecAt.below (h : RecAt w lo b v r) (hb : Below b w w') : RecAt w' lo b v r := h.keep fun g _ hg => hb.block g hg
theorem RecAt.mono (h : RecAt w lo b v r) (hl : lo' ≤ lo) (hb : b ≤ b') : RecAt w lo' b' v r := by
  obtain ⟨hv, h1, h2⟩ := h
  exact ⟨hv, h1, h2.mono hl hb⟩
theorem RecsAt.keep (h : RecsAt w lo b v rs) (hk : ∀ g, lo ≤ g → g < b → w'.heap[g]? = w.heap[g]?) : RecsAt w' lo b v rs := by
  obtain ⟨H, h1, h2⟩ := h
  exact ⟨H, h1.keep hk, fun i hi => (h2 i hi).keep hk⟩
theorem RecsAt.below (h : RecsAt w lo b v rs) (hb : Below b w w') : RecsAt w' lo b v rs := h.keep fun g _ hg => hb.block g hg
theorem RecsAt.mono (h : RecsAt w lo b v rs) (hl : lo' ≤ lo) (hb : b ≤ b') : RecsAt w lo' b' v rs := by
  obtain ⟨H, h1, h2⟩ := h
  exact ⟨H, h1.mono hl hb, fun i hi => (h2 i hi).mono hl hb⟩
theorem RecsAt.drewN (h : RecsAt w lo b v rs) (k : Nat) : RecsAt (w.drewN k) lo b v rs := h
theorem BatAt.keep (h : BatAt w lo b v t) (hk : ∀ g, lo ≤ g → g < b → w'.heap[g]? = w.heap[g]?) : BatAt w' lo b v t := by
  obtain ⟨hv, h1, h2⟩ := h
  exact ⟨hv, h1, h2.keep hk⟩
theorem BatAt.below (h : BatAt w lo b v t) (hb : Below b w w') : BatAt w' lo b v t := h.keep fun g _ hg => hb.block g hg
theorem BatAt.mono (h : BatAt w lo b v t) (hl : lo' ≤ lo) (hb : b ≤ b') : BatAt w lo' b' v t := by
  obtain ⟨hv, h1, h2⟩ := h
  exact ⟨hv, h1, h2.mono hl hb⟩
end

/-- Every text is one that memory holds. -/
def FineH (h : Hd) : Prop := h.key.size ≤ maxLen ∧ h.val.size ≤ maxLen
def FineR (r : Rec) : Prop := r.key.size ≤ maxLen ∧ r.val.size ≤ maxLen ∧ r.heads.length ≤ maxLen ∧ ∀ i, i < r.heads.length → FineH (r.heads.getD i default)
def FineB (t : Bat) : Prop := t.recs.length ≤ maxLen ∧ ∀ i, i < t.recs.length → FineR (t.recs.getD i default)
/-- .. and has few enough elements. -/
def FewR (r : Rec) : Prop := r.heads.length ≤ 1048576
def FewB (t : Bat) : Prop := t.recs.length ≤ 1048576 ∧ ∀ i, i < t.recs.length → FewR (t.recs.getD i default)

theorem Heads.cell0 {w : World} {g o n : Nat} {hs : List Hd} (h : ∀ i, i < n → ∀ j, j < 2 → w.cell? ⟨g, o + i * 2 + j, none⟩ = some (hdCells hs i j)) (i : Nat) (hi : i < n) :
    w.cell? ⟨g, o + i * 2, none⟩ = some (.string (hs.getD i default).key) ∧ w.cell? ⟨g, o + i * 2 + 1, none⟩ = some (.string (hs.getD i default).val) := ⟨h i hi 0 (by omega), h i hi 1 (by omega)⟩
end Go.Proofs.Ytkohhcjpjloaaaa.Recs
namespace Go.Proofs.Ytkohhcjpjloaaaa.Cells
set_option maxRecDepth 8000
open Go.RowKit
set_option linter.unusedVariables false
def setA (cs : Array Value) : Nat → List Value → Array Value
  | _, [] => cs
  | o, v :: r => setA (cs.setIfInBounds o v) (o + 1) r
theorem heap_setCells (g : Nat) (t : TypeId) : ∀ (vs : List Value) (o : Nat) (cs : Array Value) (w : World), w.heap[g]? = some (.cells cs t (0, 0)) → (w.setCells g o vs).heap[g]? = some (.cells (setA cs o vs) t (0, 0))
  | [], _, _, _, h => h
  | v :: r, o, cs, w, h => heap_setCells g t r (o + 1) _ _ (heap_setCell_same w g o cs t v h)
theorem setA_size : ∀ (vs : List Value) (o : Nat) (cs : Array Value), (setA cs o vs).size = cs.size
  | [], _, _ => rfl
  | v :: r, o, cs => by rw [setA, setA_size r]; simp
theorem setA_low : ∀ (vs : List Value) (o : Nat) (cs : Array Value) (j : Nat), j < o → (setA cs o vs)[j]? = cs[j]?
  | [], _, _, _, _ => rfl
  | v :: r, o, cs, j, h => by rw [setA, setA_low r _ _ _ (by omega), Array.getElem?_setIfInBounds_ne (by omega)]
theorem setA_in : ∀ (vs : List Value) (o : Nat) (cs : Array Value) (j : Nat), j < vs.length → o + vs.length ≤ cs.size → (setA cs o vs)[o + j]? = vs[j]?
  | v :: r, o, cs, 0, _, hs => by
    rw [setA, setA_low r _ _ _ (by omega)]
    simp at hs
    simp [show o < cs.size by omega]
  | v :: r, o, cs, j + 1, h, hs => by
    simp at h hs
    rw [setA, show o + (j + 1) = (o + 1) + j by omega, setA_in r (o + 1) _ j h (by simp; omega)]
    simp
theorem setA_all (vs z : Array Value) (hz : z.size = vs.size) : setA z 0 vs.toList = vs := by
  apply Array.ext_getElem?
  intro j
  by_cases hj : j < vs.size
  · have := setA_in vs.toList 0 z j (by simpa using hj) (by simp; omega)
    rw [Nat.zero_add] at this
    rw [this]; simp
  · rw [Array.getElem?_eq_none (by rw [setA_size]; omega), Array.getElem?_eq_none (by omega)]
theorem below_setCells {B g : Nat} (hg : B ≤ g) : ∀ (vs : List Value) (o : Nat) (a w : World), Below B a w → Below B a (w.setCells g o vs)
  | [], _, _, _, h => h
  | v :: r, o, a, w, h => below_setCells hg r (o + 1) a _ (h.setCell hg v)
theorem heap_setCells_other {g k : Nat} : ∀ (vs : List Value) {o : Nat} (w : World), k ≠ g → (w.setCells g o vs).heap[k]? = w.heap[k]?
  | [], _, _, _ => rfl
  | v :: r, o, w, h => (heap_setCells_other r (w.setCell ⟨g, o, none⟩ v) h).trans (heap_setCell_other w _ k v h)
theorem size_setCells {g : Nat} : ∀ (vs : List Value) {o : Nat} (w : World), (w.setCells g o vs).heap.size = w.heap.size
  | [], _, _ => rfl
  | v :: r, o, w => (size_setCells r (w.setCell ⟨g, o, none⟩ v)).trans (by simp)
theorem there_of {w : World} {g t : Nat} {cs : Array Value} (h : w.heap[g]? = some (.cells cs t (0, 0))) : w.there g 0 cs.size := fun j hj => by
  rw [Nat.zero_add, cell_of_row w g j cs t (0, 0) h, frozen_of_row w g j cs t h]
  exact ⟨by simp [hj], rfl⟩
theorem at3' (w : World) (a b c : Obj) : (((w.alloc a).alloc b).alloc c).heap[w.heap.size + 1 + 1]? = some c := by
  show (((w.heap.push a).push b).push c)[w.heap.size + 1 + 1]? = some c
  rw [Array.getElem?_push, if_pos (by simp)]
theorem frozen_of {w : World} {g j : Nat} {cs : Array Value} {t : TypeId} (h : w.heap[g]? = some (.cells cs t (0, 0))) : w.frozen? ⟨g, j, none⟩ = false := frozen_of_row w g j cs t h
/-- A block that is a struct's own, wholly written: the block then is just what was written. -/
theorem whole {w : World} {g t : Nat} {cs vs : Array Value} (h : w.heap[g]? = some (.cells cs t (0, 0))) (hs : cs.size = vs.size) : (w.setCells g 0 vs.toList).heap[g]? = some (.cells vs t (0, 0)) := by
  have := heap_setCells g t vs.toList 0 cs w h
  rw [setA_all vs cs hs] at this
  exact this
end Go.Proofs.Ytkohhcjpjloaaaa.Cells
