/- The squeezed bytes, as plain lists: how far the squeezing is; Heads, records and batches: as plain data, and how they lie in memory. -/
import Derived.Deep.Slices
import Derived.Test.YtdhicmbfknagjaaJWT03
import Derived.Test.YtdhicmbfknagjaaJWT02
namespace Go.Proofs.Ytdhicmbfknagjaa.SqF
set_option maxRecDepth 8000
open SqM (cp cp_le)
open SqP (plain plain_len)
set_option linter.unusedVariables false
def mark3 (L d : Nat) : List Int := [124 + (L : Int), (((d - 1) / 256 : Nat) : Int), (((d - 1) % 256 : Nat) : Int)]
/-- f steps at most. -/
def sqF (l : List Int) : Nat → Nat → Nat → List Int → List Int
  | 0, at_, p, out => out ++ plain (l.drop p)
  | f + 1, at_, p, out => if at_ < l.length then
      (if (cp l at_).1 = 0 then sqF l f (at_ + 1) p out
       else sqF l f (at_ + (cp l at_).1) (at_ + (cp l at_).1) (out ++ plain ((l.drop p).take (at_ - p)) ++ mark3 (cp l at_).1 (cp l at_).2))
    else out ++ plain (l.drop p)
theorem sqF_same (l : List Int) : ∀ (f g at_ p : Nat) (out : List Int), l.length - at_ ≤ f → l.length - at_ ≤ g → sqF l f at_ p out = sqF l g at_ p out
  | 0, 0, _, _, _, _, _ => rfl
  | 0, g + 1, at_, p, out, h, _ => by rw [sqF, sqF, if_neg (by omega)]
  | f + 1, 0, at_, p, out, _, h => by rw [sqF, sqF, if_neg (by omega)]
  | f + 1, g + 1, at_, p, out, h1, h2 => by
    rw [sqF, sqF]
    by_cases h : at_ < l.length
    · rw [if_pos h, if_pos h]
      by_cases hz : (cp l at_).1 = 0
      · rw [if_pos hz, if_pos hz]
        exact sqF_same l f g _ _ _ (by omega) (by omega)
      · rw [if_neg hz, if_neg hz]
        exact sqF_same l f g _ _ _ (by omega) (by omega)
    · rw [if_neg h, if_neg h]
def sq (l : List Int) (at_ p : Nat) (out : List Int) : List Int := sqF l (l.length - at_) at_ p out
theorem sq_end {l : List Int} {at_ p : Nat} {out : List Int} (h : ¬ at_ < l.length) : sq l at_ p out = out ++ plain (l.drop p) := by
  rw [sq, show l.length - at_ = 0 by omega]; rfl
theorem sq_plain {l : List Int} {at_ p : Nat} {out : List Int} (h : at_ < l.length) (hz : (cp l at_).1 = 0) : sq l at_ p out = sq l (at_ + 1) p out := by
  obtain ⟨f, hf⟩ : ∃ f, l.length - at_ = f + 1 := ⟨l.length - at_ - 1, by omega⟩
  rw [sq, hf, sqF, if_pos h, if_pos hz]
  exact sqF_same l _ _ _ _ _ (by omega) (by omega)
theorem sq_copy {l : List Int} {at_ p : Nat} {out : List Int} (h : at_ < l.length) (hz : ¬ (cp l at_).1 = 0) :
    sq l at_ p out = sq l (at_ + (cp l at_).1) (at_ + (cp l at_).1) (out ++ plain ((l.drop p).take (at_ - p)) ++ mark3 (cp l at_).1 (cp l at_).2) := by
  obtain ⟨f, hf⟩ : ∃ f, l.length - at_ = f + 1 := ⟨l.length - at_ - 1, by omega⟩
  rw [sq, hf, sqF, if_pos h, if_neg hz]
  exact sqF_same l _ _ _ _ _ (by omega) (by omega)
/-- How far the squeezing is: the bytes up to p are out, those from p to the place are plain. -/
structure Sq (l : List Int) (at_ p : Nat) (out : List Int) : Prop where
  pa : p ≤ at_
  al : at_ ≤ l.length
  ol : out.length ≤ 2 * p
  eq : sq l 0 0 [] = sq l at_ p out
theorem Sq.start (l : List Int) : Sq l 0 0 [] := ⟨Nat.le_refl _, Nat.zero_le _, by simp, rfl⟩
theorem Sq.plain {l : List Int} {at_ p : Nat} {out : List Int} (h : Sq l at_ p out) (hlt : at_ < l.length) (hz : (cp l at_).1 = 0) : Sq l (at_ + 1) p out :=
  ⟨by have := h.pa; omega, by omega, h.ol, h.eq.trans (sq_plain hlt hz)⟩
theorem Sq.copy {l : List Int} {at_ p : Nat} {out : List Int} (h : Sq l at_ p out) (hlt : at_ < l.length) (hz : ¬ (cp l at_).1 = 0) :
    Sq l (at_ + (cp l at_).1) (at_ + (cp l at_).1) (out ++ SqP.plain ((l.drop p).take (at_ - p)) ++ mark3 (cp l at_).1 (cp l at_).2) := by
  have hc := cp_le l at_
  have hp := h.pa
  refine ⟨Nat.le_refl _, by omega, ?_, h.eq.trans (sq_copy hlt hz)⟩
  have h1 := h.ol
  have h2 := plain_len ((l.drop p).take (at_ - p))
  simp only [List.length_append, List.length_take, List.length_drop, mark3, List.length_cons, List.length_nil] at h2 ⊢
  omega
theorem Sq.ends {l : List Int} {at_ p : Nat} {out : List Int} (h : Sq l at_ p out) (hlt : ¬ at_ < l.length) : sq l 0 0 [] = out ++ SqP.plain (l.drop p) := h.eq.trans (sq_end hlt)
/-- The squeezed bytes. -/
def squeeze (l : List Int) : List Int := if 60000 < l.length then [] else sq l 0 0 []
end Go.Proofs.Ytdhicmbfknagjaa.SqF
namespace Go.Proofs.Ytdhicmbfknagjaa.Recs
set_option maxRecDepth 8000
open Go.RowKit

structure Hd where
  key : ByteArray
  val : ByteArray
  deriving Inhabited
structure Rec where
  time : Int
  keyed : Bool
  key : ByteArray
  gone : Bool
  val : ByteArray
  heads : List Hd
  deriving Inhabited
structure Bat where
  base : Int
  epoch : Int
  producer : Int
  turn : Int
  seq : Int
  flags : Int
  recs : List Rec
  deriving Inhabited

/-- A slice of n elements of s cells each, in a block from lo on, below block b: cell j of element i holds 'f i j'. -/
def Row (w : World) (lo b s : Nat) (v : Value) (n : Nat) (f : Nat → Nat → Value) : Prop :=
  n ≤ 9223372036854775807 ∧ ∃ A c, v = .slice A n c ∧ (n = 0 ∨ ∃ g o, A = some ⟨g, o, none⟩ ∧ g < b ∧ n ≤ c ∧ (∀ i, i < n → ∀ j, j < s → w.cell? ⟨g, o + i * s + j, none⟩ = some (f i j)) ∧ lo ≤ g)
theorem hsz (w : World) (o : Obj) : (w.alloc o).heap.size = w.heap.size + 1 := by show (w.heap.push o).size = _; simp
theorem chain {w wr w1 : World} (h : Below w.heap.size w wr) (b1 : Below wr.heap.size wr w1) : Below w.heap.size w w1 := h.trans (b1.mono h.size)
theorem chainD {w wr w1 : World} (h : Below w.heap.size w wr) (b1 : Below wr.drew.heap.size wr.drew w1) : Below w.heap.size w w1 := h.drew.trans (b1.mono h.size)
theorem below1 (w : World) (a : Obj) : Below w.heap.size w (w.alloc a) := (Below.refl _ w).alloc (Nat.le_refl _) _
theorem below2 (w : World) (a b : Obj) : Below w.heap.size w ((w.alloc a).alloc b) := (below1 w a).alloc (by rw [hsz]; omega) _
theorem below3 (w : World) (a b c : Obj) : Below w.heap.size w (((w.alloc a).alloc b).alloc c) := (below2 w a b).alloc (by rw [hsz, hsz]; omega) _
theorem at3 (w : World) (a b c : Obj) : (((w.alloc a).alloc b).alloc c).heap[w.heap.size + 1]? = some b := by
  show (((w.heap.push a).push b).push c)[w.heap.size + 1]? = some b
  rw [Array.getElem?_push, if_neg (by simp), Array.getElem?_push, if_pos (by simp)]
theorem Row.keep {w w' : World} {lo b s n : Nat} {v : Value} {f : Nat → Nat → Value} (h : Row w lo b s v n f) (hk : ∀ g, lo ≤ g → g < b → w'.heap[g]? = w.heap[g]?) : Row w' lo b s v n f := by
  obtain ⟨hn, A, c, h1, h2⟩ := h
  refine ⟨hn, A, c, h1, h2.imp id ?_⟩
  rintro ⟨g, o, h3, h4, h5, h6, h7⟩
  exact ⟨g, o, h3, h4, h5, fun i hi j hj => by rw [World.cell?_of_block (w := w) (a := ⟨g, o + i * s + j, none⟩) (hk g h7 h4)]; exact h6 i hi j hj, h7⟩
theorem Row.below {w w' : World} {lo b s n : Nat} {v : Value} {f : Nat → Nat → Value} (h : Row w lo b s v n f) (hb : Below b w w') : Row w' lo b s v n f := h.keep fun g _ hg => hb.block g hg
theorem Row.mono {w : World} {lo lo' b b' s n : Nat} {v : Value} {f : Nat → Nat → Value} (h : Row w lo b s v n f) (hl : lo' ≤ lo) (hb : b ≤ b') : Row w lo' b' s v n f := by
  obtain ⟨hn, A, c, h1, h2⟩ := h
  refine ⟨hn, A, c, h1, h2.imp id ?_⟩
  rintro ⟨g, o, h3, h4, h5, h6, h7⟩
  exact ⟨g, o, h3, Nat.lt_of_lt_of_le h4 hb, h5, h6, Nat.le_trans hl h7⟩
theorem Row.drewN {w : World} {lo b s n : Nat} {v : Value} {f : Nat → Nat → Value} (h : Row w lo b s v n f) (k : Nat) : Row (w.drewN k) lo b s v n f := h

/-- Block g is a row that the call made itself, of n elements of s cells; cell q holds 'F q'. -/
def Mine (w : World) (e s g n : Nat) (F : Nat → Value) : Prop := w.ownsRow g e s (.slice (some ⟨g, 0, none⟩) n n) n ((List.range (n * s)).map F)
theorem Mine.of_made {w : World} {e s g n : Nat} {xs : List Value} (h : w.ownsRow g e s (.slice (some ⟨g, 0, none⟩) n n) n xs) (hl : xs.length = n * s) : Mine w e s g n (fun q => xs.getD q default) := by
  have : (List.range (n * s)).map (fun q => xs.getD q default) = xs := List.ext_getElem (by simp [hl]) fun i h1 h2 => by simp [h2]
  unfold Mine
  rw [this]
  exact h
theorem Mine.cell {w : World} {e s g n : Nat} {F : Nat → Value} (h : Mine w e s g n F) (q : Nat) (hq : q < n * s) : w.cell? ⟨g, q, none⟩ = some (F q) := by
  have := World.ownsRow.cellAt h q hq
  rw [this]
  simp [hq]
theorem Mine.frozen {w : World} {e s g n : Nat} {F : Nat → Value} (h : Mine w e s g n F) (q : Nat) : w.frozen? ⟨g, q, none⟩ = false := World.ownsRow.frozenAt h q
theorem Mine.lt {w : World} {e s g n : Nat} {F : Nat → Value} (h : Mine w e s g n F) : g < w.heap.size := by
  rcases h.2 with ⟨h', _⟩ | ⟨g', cap', cur, h', hb, hg, hnc, hcm, hcs, htake⟩
  · simp at h'
  · simp only [Value.slice.injEq, Option.some.injEq, Addr.mk.injEq, and_true, true_and] at h'
    obtain ⟨rfl, rfl⟩ := h'
    exact (Array.getElem?_eq_some_iff.1 hg).1
theorem Mine.set {w : World} {e s g n : Nat} {F : Nat → Value} (h : Mine w e s g n F) (q : Nat) (v : Value) : Mine (w.setCell ⟨g, q, none⟩ v) e s g n (fun i => if i = q then v else F i) := by
  have := (World.ownsRow.stored h q v).1
  have he : ((List.range (n * s)).map F).set q v = (List.range (n * s)).map (fun i => if i = q then v else F i) := List.ext_getElem (by simp) fun i h1 h2 => by
    by_cases hi : i = q
    · subst hi; simp
    · rw [List.getElem_set_ne (by omega)]; simp [hi]
  rw [he] at this
  exact this
theorem Mine.below {w w' : World} {e s g n b : Nat} {F : Nat → Value} (h : Mine w e s g n F) (hb : Below b w w') (hg : g < b) : Mine w' e s g n F := by
  refine ⟨h.1, ?_⟩
  rcases h.2 with hn | ⟨g', cap, cur, h', hbs, hgg, rest⟩
  · exact .inl hn
  · have h'' := h'
    simp only [Value.slice.injEq, Option.some.injEq, Addr.mk.injEq, and_true, true_and] at h''
    obtain ⟨rfl, rfl⟩ := h''
    exact .inr ⟨g, n, cur, h', hbs, by rw [hb.block g hg]; exact hgg, rest⟩
theorem Mine.row {w : World} {e s g n lo b : Nat} {F : Nat → Value} {f : Nat → Nat → Value} (h : Mine w e s g n F) (hn : n ≤ 9223372036854775807) (hb : g < b) (hlo : lo ≤ g) (hf : ∀ i, i < n → ∀ j, j < s → F (i * s + j) = f i j) :
    Row w lo b s (.slice (some ⟨g, 0, none⟩) n n) n f :=
  ⟨hn, _, _, rfl, .inr ⟨g, 0, rfl, hb, Nat.le_refl _, fun i hi j hj => by
    have hq : i * s + j < n * s := by
      have : (i + 1) * s ≤ n * s := Nat.mul_le_mul_right s hi
      rw [Nat.succ_mul] at this
      omega
    rw [Nat.zero_add, h.cell _ hq, hf i hi j hj], hlo⟩⟩

def hdCells (hs : List Hd) (i j : Nat) : Value := if j = 0 then .string (hs.getD i default).key else .string (hs.getD i default).val
def Heads (w : World) (lo b : Nat) (v : Value) (hs : List Hd) : Prop := Row w lo b 2 v hs.length (hdCells hs)
def recVal (r : Rec) (hv : Value) : Value := .agg #[.int .i64 r.time, .bool r.keyed, .string r.key, .bool r.gone, .string r.val, hv]
/-- The value is this record. -/
def RecAt (w : World) (lo b : Nat) (v : Value) (r : Rec) : Prop := ∃ hv, v = recVal r hv ∧ Heads w lo b hv r.heads
def recCells (rs : List Rec) (H : Nat → Value) (i j : Nat) : Value :=
  if j = 0 then .int .i64 (rs.getD i default).time else if j = 1 then .bool (rs.getD i default).keyed else if j = 2 then .string (rs.getD i default).key else if j = 3 then .bool (rs.getD i default).gone else
  if j = 4 then .string (rs.getD i default).val else H i
def RecsAt (w : World) (lo b : Nat) (v : Value) (rs : List Rec) : Prop := ∃ H : Nat → Value, Row w lo b 6 v rs.length (recCells rs H) ∧ ∀ i, i < rs.length → Heads w lo b (H i) (rs.getD i default).heads
def batVal (t : Bat) (rv : Value) : Value := .agg #[.int .i64 t.base, .int .i64 t.epoch, .int .i64 t.producer, .int .i64 t.turn, .int .i64 t.seq, .int .i64 t.flags, rv]
def BatAt (w : World) (lo b : Nat) (v : Value) (t : Bat) : Prop := ∃ rv, v = batVal t rv ∧ RecsAt w lo b rv t.recs

section
variable {w w' : World} {lo lo' b b' : Nat} {v : Value} {hs : List Hd} {r : Rec} {rs : List Rec} {t : Bat}
theorem Heads.keep (h : Heads w lo b v hs) (hk : ∀ g, lo ≤ g → g < b → w'.heap[g]? = w.heap[g]?) : Heads w' lo b v hs := Row.keep h hk
theorem Heads.below (h : Heads w lo b v hs) (hb : Below b w w') : Heads w' lo b v hs := Row.below h hb
theorem Heads.mono (h : Heads w lo b v hs) (hl : lo' ≤ lo) (hb : b ≤ b') : Heads w lo' b' v hs := Row.mono h hl hb
theorem Heads.drewN (h : Heads w lo b v hs) (k : Nat) : Heads (w.drewN k) lo b v hs := h
theorem RecAt.keep (h : RecAt w lo b v r) (hk : ∀ g, lo ≤ g → g < b → w'.heap[g]? = w.heap[g]?) : RecAt w' lo b v r := by
  obtain ⟨hv, h1, h2⟩ := h
  exact ⟨hv, h1, h2.keep hk⟩
theorem RecAt.below (h : RecAt w lo b v r) (hb : Below b w w') : RecAt w' lo b v r := h.keep fun g _ hg => hb.block g hg
theorem RecAt.mono (h : RecAt w lo b v r) (hl : lo' ≤ lo) (hb : b ≤ b') : RecAt w lo' b' v r := by
  obtain ⟨hv, h1, h2⟩ := h
  exact ⟨hv, h1, h2.mono hl hb⟩
theorem RecsAt.keep (h : RecsAt w lo b v rs) (hk : ∀ g, lo ≤ g → g < b → w'.heap[g]? = w.heap[g]?) : RecsAt w' lo b v rs := by
  obtain ⟨H, h1, h2⟩ := h
  exact ⟨H, h1.keep hk, fun i hi => (h2 i hi).keep hk⟩
theorem RecsAt.below (h : RecsAt w lo b v rs) (hb : Below b w w') : RecsAt w' lo b v rs := h.keep fun g _ hg => hb.block g hg
theorem RecsAt.mono (h : RecsAt w lo b v rs) (hl : lo' ≤ lo) (hb : b ≤ b') : RecsAt w lo' b' v rs := by
  obtain ⟨H, h1, h2⟩ := h
  exact ⟨H, h1.mono hl hb, fun i hi => (h2 i hi).mono hl hb⟩
theorem RecsAt.drewN (h : RecsAt w lo b v rs) (k : Nat) : RecsAt (w.drewN k) lo b v rs := h
theorem BatAt.keep (h : BatAt w lo b v t) (hk : ∀ g, lo ≤ g → g < b → w'.heap[g]? = w.heap[g]?) : BatAt w' lo b v t := by
  obtain ⟨hv, h1, h2⟩ := h
  exact ⟨hv, h1, h2.keep hk⟩
theorem BatAt.below (h : BatAt w lo b v t) (hb : Below b w w') : BatAt w' lo b v t := h.keep fun g _ hg => hb.block g hg
theorem BatAt.mono (h : BatAt w lo b v t) (hl : lo' ≤ lo) (hb : b ≤ b') : BatAt w lo' b' v t := by
  obtain ⟨hv, h1, h2⟩ := h
  exact ⟨hv, h1, h2.mono hl hb⟩
end

/-- Every text is one that memory holds. -/
def FineH (h : Hd) : Prop := h.key.size ≤ maxLen ∧ h.val.size ≤ maxLen
def FineR (r : Rec) : Prop := r.key.size ≤ maxLen ∧ r.val.size ≤ maxLen ∧ r.heads.length ≤ maxLen ∧ ∀ i, i < r.heads.length → FineH (r.heads.getD i default)
def FineB (t : Bat) : Prop := t.recs.length ≤ maxLen ∧ ∀ i, i < t.recs.length → FineR (t.recs.getD i default)
/-- .. and has few enough elements. -/
def FewR (r : Rec) : Prop := r.heads.length ≤ 1048576
def FewB (t : Bat) : Prop := t.recs.length ≤ 1048576 ∧ ∀ i, i < t.recs.length → FewR (t.recs.getD i default)

theorem Heads.cell0 {w : World} {g o n : Nat} {hs : List Hd} (h : ∀ i, i < n → ∀ j, j < 2 → w.cell? ⟨g, o + i * 2 + j, none⟩ = some (hdCells hs i j)) (i : Nat) (hi : i < n) :
    w.cell? ⟨g, o + i * 2, none⟩ = some (.string (hs.getD i default).key) ∧ w.cell? ⟨g, o + i * 2 + 1, none⟩ = some (.string (hs.getD i default).val) := ⟨h i hi 0 (by omega), h i hi 1 (by omega)⟩
end Go.Proofs.Ytdhicmbfknagjaa.Recs
