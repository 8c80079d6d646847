/- The program's stepReader.next: an expression's steps taken from behind, as a function value. -/
import Derived.Test.YtclkcnkjjoolcaaRnC
import Derived.Test.YtclkcnkjjoolcaaCells
import Derived.Deep.RegionWith
import Derived.Deep.Cut
namespace Go.Proofs.Ytclkcnkjjoolcaa.RnN
set_option maxRecDepth 8000
open Go.RowKit
open Ls Lp QyP QsP QtP QuP QdP QrP YcP RnP RnI RnC
open Recs (hsz below1 below2 chain chainD)
set_option linter.unusedVariables false
/-- The reader's variable, the other memory as it was. -/
structure Rd (r : Nat) (A : Option Addr) (cap : Nat) (A2 : Option Addr) (c2 m : Nat) (k : Nat) (w : World) : Prop where
  row : w.heap[r]? = some (.cells #[.slice A k cap, .slice A2 m c2] 60 (0, 0))
structure Mv (r : Nat) (w w' : World) : Prop where
  os : w'.os = w.os
  tape : w'.tape = w.tape
  output : w'.output = w.output
  kp : Kp r w w'
theorem Mv.refl (r : Nat) (w : World) : Mv r w w := ⟨rfl, rfl, rfl, Kp.refl _ _⟩
theorem Mv.trans {r : Nat} {a b c : World} (h : Mv r a b) (h' : Mv r b c) : Mv r a c := ⟨h'.os.trans h.os, h'.tape.trans h.tape, h'.output.trans h.output, h.kp.trans h'.kp⟩
theorem Mv.of_below {r : Nat} {a b : World} (h : Below a.heap.size a b) : Mv r a b := ⟨h.os, h.tape, h.output, .of_below h⟩
theorem Mv.drew {r : Nat} {a b : World} (h : Mv r a b) : Mv r a b.drew := ⟨h.os, h.tape, h.output, ⟨h.kp.size, h.kp.block⟩⟩
theorem Mv.below {r : Nat} {w a b : World} (h : Mv r a b) (ha : Below w.heap.size w a) (hr : r = w.heap.size) : Below w.heap.size w b :=
  ⟨h.os.trans ha.os, h.tape.trans ha.tape, h.output.trans ha.output, Nat.le_trans ha.size h.kp.size, fun g hg => (h.kp.block g (Nat.lt_of_lt_of_le hg ha.size) (by omega)).trans (ha.block g hg)⟩
theorem ev_num {r m b : Nat} {w : World} {num : Int} (hb : b < w.heap.size) (hbr : b ≠ r) (hc : w.cell? ⟨b, 1, none⟩ = some (.int .i64 num)) : Ev r m w (.func (.func 37) #[] #[.pointer (some ⟨b, 0, none⟩)]) (fun _ => num) :=
  ⟨_, _, rfl, enters_of Try.func37 (by kernel_rfl) rfl, fun wx hx A c row S hr hS hm hi => (c1_any (.slice A row.length c) b num wx (Nat.lt_of_lt_of_le hb hx.size) (hx.cell hb hbr hc)).mono fun e w' ⟨h1, h2⟩ => ⟨h1, 0, h2⟩⟩
theorem ev_col {r m b k : Nat} {w : World} (hk : k < m) (hb : b < w.heap.size) (hbr : b ≠ r) (hc : w.cell? ⟨b, 0, none⟩ = some (.int .i64 (k : Int))) : Ev r m w (.func (.func 38) #[] #[.pointer (some ⟨b, 0, none⟩)]) (fun row => row.getD k 0) :=
  ⟨_, _, rfl, enters_of Try.func38 (by kernel_rfl) rfl, fun wx hx A c row S hr hS hm hi => (c2_any A c b k row wx S hr hS (by omega) (Nat.lt_of_lt_of_le hb hx.size) (hx.cell hb hbr hc)).mono fun e w' ⟨h1, h2⟩ => ⟨h1, 0, h2⟩⟩
theorem ev_not {r m b : Nat} {w : World} {v : Value} {f : List Int → Int} (hb : b < w.heap.size) (hbr : b ≠ r) (hc : w.cell? ⟨b, 0, none⟩ = some v) (hv : Ev r m w v f) : Ev r m w (.func (.func 39) #[] #[.pointer (some ⟨b, 0, none⟩)]) (fun row => b01 (decide (f row = 0))) :=
  ⟨_, _, rfl, enters_of Try.func39 (by kernel_rfl) rfl, fun wx hx A c row S hr hS hm hi => c3_any A c b r m row v f wx S hr hS hm hi (Nat.lt_of_lt_of_le hb hx.size) (hx.cell hb hbr hc) (hv.later hx)⟩
theorem ev_two {r m b1 b2 b3 : Nat} {w : World} {vo va vb : Value} {op : Int} {f g : List Int → Int} (hf : ∀ row : List Int, row.all inM = true → inM (f row) = true) (hg : ∀ row : List Int, row.all inM = true → inM (g row) = true) (h1 : b1 < w.heap.size) (h2 : b2 < w.heap.size) (h3 : b3 < w.heap.size) (n1 : b1 ≠ r) (n2 : b2 ≠ r) (n3 : b3 ≠ r)
    (c1 : w.cell? ⟨b1, 0, none⟩ = some vo) (c2 : w.cell? ⟨b2, 0, none⟩ = some va) (c3 : w.cell? ⟨b3, 0, none⟩ = some vb) (ho : Bi vo op) (ha : Ev r m w va f) (hb : Ev r m w vb g) : Ev r m w (.func (.func 42) #[] #[.pointer (some ⟨b1, 0, none⟩), .pointer (some ⟨b2, 0, none⟩), .pointer (some ⟨b3, 0, none⟩)]) (fun row => doS op (f row) (g row)) :=
  ⟨_, _, rfl, enters_of Try.func42 (by kernel_rfl) rfl, fun wx hx A c row S hr hS hm hi => c4_any A c b1 b2 b3 r m row vo va vb op f g wx S hr hS hm hi (hf row hi) (hg row hi) (Nat.lt_of_lt_of_le h1 hx.size) (Nat.lt_of_lt_of_le h2 hx.size) (Nat.lt_of_lt_of_le h3 hx.size) (hx.cell h1 n1 c1) (hx.cell h2 n2 c2) (hx.cell h3 n3 c3) ho (ha.later hx) (hb.later hx)⟩
/-- What a call of next leaves. -/
def Post (r : Nat) (A : Option Addr) (cap : Nat) (A2 : Option Addr) (c2 : Nat) (cols : List ByteArray) (k : Nat) (f : List Int → Int) (w : World) (e : Ending) (w' : World) : Prop :=
  ∃ v, e = .returned v ∧ Ev r cols.length w' v f ∧ Rd r A cap A2 c2 cols.length k w' ∧ Mv r w w'
/-- What a call of next asks. -/
structure Pre (r : Nat) (A : Option Addr) (cap : Nat) (A2 : Option Addr) (c2 : Nat) (cols : List ByteArray) (l0 : List Stp) (S : Nat → Prop) (k : Nat) (w : World) : Prop where
  rd : Rd r A cap A2 c2 cols.length k w
  steps : LAt 3 EStp w S (.slice A l0.length cap) l0
  cols : StrsAt w S (.slice A2 cols.length c2) cols
  S : ∀ g, S g → g < w.heap.size ∧ g ≠ r
  k : k ≤ l0.length
theorem Pre.later {r : Nat} {A : Option Addr} {cap : Nat} {A2 : Option Addr} {c2 : Nat} {cols : List ByteArray} {l0 : List Stp} {S : Nat → Prop} {k k' : Nat} {w w' : World} (h : Pre r A cap A2 c2 cols l0 S k w) (hr : Rd r A cap A2 c2 cols.length k' w') (hk : Kp r w w') (hk' : k' ≤ l0.length) : Pre r A cap A2 c2 cols l0 S k' w' :=
  ⟨hr, LAt.keep keepsStp h.steps (fun g hg => hk.block g (h.S g hg).1 (h.S g hg).2), LAt.keep keepsStr h.cols (fun g hg => hk.block g (h.S g hg).1 (h.S g hg).2), fun g hg => ⟨Nat.lt_of_lt_of_le (h.S g hg).1 hk.size, (h.S g hg).2⟩, hk'⟩
theorem at_last {l0 pre e post : List Stp} {s : Stp} (h : l0 = pre ++ (e ++ [s]) ++ post) : pre.length + e.length < l0.length ∧ l0.getD (pre.length + e.length) default = s := by
  subst h
  constructor
  · first | (simp; done) | (simp; omega)
  · have : pre ++ (e ++ [s]) ++ post = (pre ++ e) ++ (s :: post) := by simp
    rw [this]
    have h2 : pre.length + e.length = (pre ++ e).length := by simp
    rw [h2]
    simp
set_option maxHeartbeats 12800000 in
theorem next_any (r : Nat) (A : Option Addr) (cap : Nat) (A2 : Option Addr) (c2 : Nat) (cols : List ByteArray) (l0 : List Stp) (S : Nat → Prop) (hl : l0.length ≤ 60) {e : List Stp} {f : List Int → Int} (h : Ex cols e f) : ∀ (pre post : List Stp), l0 = pre ++ e ++ post → ∀ w, Pre r A cap A2 c2 cols l0 S (pre.length + e.length) w →
    Calls Try.prog 29 #[.pointer (some ⟨r, 0, none⟩)] w (Post r A cap A2 c2 cols pre.length f w) := by
  induction h using Ex.ind with
  | num s h hm =>
    intro pre post hl0 w hp
    have hat := at_last (pre := pre) (e := ([] : List Stp)) (s := s) (post := post) hl0
    obtain ⟨hlt, hget⟩ := hat
    obtain ⟨n, hn⟩ : ∃ n, pre.length + (([] : List Stp)).length = n := ⟨_, rfl⟩
    rw [hn] at hlt hget
    have hk : pre.length + (([] : List Stp) ++ [s]).length = n + 1 := by rw [← hn]; simp; try omega
    have hp2 : Pre r A cap A2 c2 cols l0 S (n + 1) w := by rw [← hk]; exact hp
    clear hp hk
    have HP := Seg.hid hp2
    obtain ⟨A0, c0, g, o, F, e0, OP, -⟩ := opn hp2.steps (fun y hy => (hp2.S y hy).1)
    simp only [Value.slice.injEq, true_and] at e0
    obtain ⟨rfl, rfl⟩ := e0
    obtain ⟨ea, hcp, hgw⟩ := OP.addr.resolve_left (by omega)
    subst ea
    obtain ⟨d0, d1, d2⟩ := stp_at OP (fun y hy => (hp2.S y hy).1) (Below.refl _ _) hlt
    rw [hget] at d0 d1 d2
    have hT := hp2.rd.row
    have hrl : r < w.heap.size := (Array.getElem?_eq_some_iff.1 hT).1
    clear hget OP hp2
    obtain ⟨k1, hk1⟩ : ∃ k1, n + 1 = k1 := ⟨_, rfl⟩
    rw [hk1] at hT
    have z0 := cell_of_row w r 0 _ _ (0, 0) hT
    have z1 := cell_of_row w r 1 _ _ (0, 0) hT
    have y0 := frozen_of_row w r 0 _ _ hT
    have y1 := frozen_of_row w r 1 _ _ hT
    have wz : IntKind.i64.wrap ((k1 : Int) - 1) = (n : Int) := by rw [IntKind.wrap_i64] <;> omega
    have i0 : (0 : Int) ≤ (n : Int) := by omega
    have i1 : (n : Int) < (k1 : Int) := by omega
    have i2 : (n : Int) ≤ (cap : Int) := by omega
    have i3 : n ≤ cap := by omega
    have i4 : n < k1 := by omega
    obtain ⟨op, hop⟩ : ∃ op, s.op = op := ⟨_, rfl⟩
    rw [hop] at d0 h
    have hT2 := Seg.hid hT
    have HOP := Seg.hid hop
    have HH := Seg.hid h
    clear hT hop h
    obtain ⟨w1, hw1⟩ : ∃ w1, (w.setCell ⟨r, 0, none⟩ (.slice (some ⟨g, o, none⟩) n cap)).alloc (.cells #[.int .i64 op, .int .i64 s.num, .string s.name] 32 (0, 0)) = w1 := ⟨_, rfl⟩
    have hs0 : (w.setCell ⟨r, 0, none⟩ (.slice (some ⟨g, o, none⟩) n cap)).heap.size = w.heap.size := World.size_setCell ..
    have T1 : Hid (w1.heap[w.heap.size]? = some (.cells #[.int .i64 op, .int .i64 s.num, .string s.name] 32 (0, 0))) := by
      show _ = _
      have := heap_alloc_new (w.setCell ⟨r, 0, none⟩ (.slice (some ⟨g, o, none⟩) n cap)) (.cells #[.int .i64 op, .int .i64 s.num, .string s.name] 32 (0, 0))
      rw [hs0] at this
      rw [← hw1]
      exact this
    have R1 : Hid (Rd r (some ⟨g, o, none⟩) cap A2 c2 cols.length n w1) := by
      show Rd _ _ _ _ _ _ _ _
      refine ⟨?_⟩
      rw [← hw1, heap_alloc_old _ _ (by rw [hs0]; exact hrl)]
      exact heap_setCell_same w r 0 _ _ _ hT2.out
    have M1 : Hid (Mv r w w1) := by
      show Mv _ _ _
      rw [← hw1]
      exact ⟨rfl, rfl, rfl, ⟨by rw [hsz, hs0]; omega, fun x hx hr => (heap_alloc_old _ _ (by rw [hs0]; exact hx)).trans (heap_setCell_other w _ x _ hr)⟩⟩
    have hz1 : w.heap.size < w1.heap.size := (Array.getElem?_eq_some_iff.1 T1.out).1
    have hne : w.heap.size ≠ r := by omega
    have P1 : Hid (Pre r (some ⟨g, o, none⟩) cap A2 c2 cols l0 S n w1) := HP.out.later R1.out M1.out.kp (by omega)
    go_enter Try.func29, Try.ntmps29
    go_upto_region 4 with fail
    try rw [hw1]
    clear hw1 hs0 z0 z1 y0 y1 d0 d1 d2 wz HP hT2
    have q0 := cell_of_row w1 w.heap.size 0 _ _ (0, 0) T1.out
    have q1 := cell_of_row w1 w.heap.size 1 _ _ (0, 0) T1.out
    have q2 := cell_of_row w1 w.heap.size 2 _ _ (0, 0) T1.out
    have h := HH.out
    subst h
    have hn0 : n = pre.length := by rw [← hn]; simp
    go_wp2
    go_ret
    exact ⟨_, rfl, ev_num (num := s.num) hz1 hne q1, by rw [← hn0]; exact R1.out, M1.out⟩
  | col s h hc =>
    intro pre post hl0 w hp
    have hat := at_last (pre := pre) (e := ([] : List Stp)) (s := s) (post := post) hl0
    obtain ⟨hlt, hget⟩ := hat
    obtain ⟨n, hn⟩ : ∃ n, pre.length + (([] : List Stp)).length = n := ⟨_, rfl⟩
    rw [hn] at hlt hget
    have hk : pre.length + (([] : List Stp) ++ [s]).length = n + 1 := by rw [← hn]; simp; try omega
    have hp2 : Pre r A cap A2 c2 cols l0 S (n + 1) w := by rw [← hk]; exact hp
    clear hp hk
    have HP := Seg.hid hp2
    obtain ⟨A0, c0, g, o, F, e0, OP, -⟩ := opn hp2.steps (fun y hy => (hp2.S y hy).1)
    simp only [Value.slice.injEq, true_and] at e0
    obtain ⟨rfl, rfl⟩ := e0
    obtain ⟨ea, hcp, hgw⟩ := OP.addr.resolve_left (by omega)
    subst ea
    obtain ⟨d0, d1, d2⟩ := stp_at OP (fun y hy => (hp2.S y hy).1) (Below.refl _ _) hlt
    rw [hget] at d0 d1 d2
    have hT := hp2.rd.row
    have hrl : r < w.heap.size := (Array.getElem?_eq_some_iff.1 hT).1
    clear hget OP hp2
    obtain ⟨k1, hk1⟩ : ∃ k1, n + 1 = k1 := ⟨_, rfl⟩
    rw [hk1] at hT
    have z0 := cell_of_row w r 0 _ _ (0, 0) hT
    have z1 := cell_of_row w r 1 _ _ (0, 0) hT
    have y0 := frozen_of_row w r 0 _ _ hT
    have y1 := frozen_of_row w r 1 _ _ hT
    have wz : IntKind.i64.wrap ((k1 : Int) - 1) = (n : Int) := by rw [IntKind.wrap_i64] <;> omega
    have i0 : (0 : Int) ≤ (n : Int) := by omega
    have i1 : (n : Int) < (k1 : Int) := by omega
    have i2 : (n : Int) ≤ (cap : Int) := by omega
    have i3 : n ≤ cap := by omega
    have i4 : n < k1 := by omega
    obtain ⟨op, hop⟩ : ∃ op, s.op = op := ⟨_, rfl⟩
    rw [hop] at d0 h
    have hT2 := Seg.hid hT
    have HOP := Seg.hid hop
    have HH := Seg.hid h
    clear hT hop h
    obtain ⟨w1, hw1⟩ : ∃ w1, (w.setCell ⟨r, 0, none⟩ (.slice (some ⟨g, o, none⟩) n cap)).alloc (.cells #[.int .i64 op, .int .i64 s.num, .string s.name] 32 (0, 0)) = w1 := ⟨_, rfl⟩
    have hs0 : (w.setCell ⟨r, 0, none⟩ (.slice (some ⟨g, o, none⟩) n cap)).heap.size = w.heap.size := World.size_setCell ..
    have T1 : Hid (w1.heap[w.heap.size]? = some (.cells #[.int .i64 op, .int .i64 s.num, .string s.name] 32 (0, 0))) := by
      show _ = _
      have := heap_alloc_new (w.setCell ⟨r, 0, none⟩ (.slice (some ⟨g, o, none⟩) n cap)) (.cells #[.int .i64 op, .int .i64 s.num, .string s.name] 32 (0, 0))
      rw [hs0] at this
      rw [← hw1]
      exact this
    have R1 : Hid (Rd r (some ⟨g, o, none⟩) cap A2 c2 cols.length n w1) := by
      show Rd _ _ _ _ _ _ _ _
      refine ⟨?_⟩
      rw [← hw1, heap_alloc_old _ _ (by rw [hs0]; exact hrl)]
      exact heap_setCell_same w r 0 _ _ _ hT2.out
    have M1 : Hid (Mv r w w1) := by
      show Mv _ _ _
      rw [← hw1]
      exact ⟨rfl, rfl, rfl, ⟨by rw [hsz, hs0]; omega, fun x hx hr => (heap_alloc_old _ _ (by rw [hs0]; exact hx)).trans (heap_setCell_other w _ x _ hr)⟩⟩
    have hz1 : w.heap.size < w1.heap.size := (Array.getElem?_eq_some_iff.1 T1.out).1
    have hne : w.heap.size ≠ r := by omega
    have P1 : Hid (Pre r (some ⟨g, o, none⟩) cap A2 c2 cols l0 S n w1) := HP.out.later R1.out M1.out.kp (by omega)
    go_enter Try.func29, Try.ntmps29
    go_upto_region 4 with fail
    try rw [hw1]
    clear hw1 hs0 z0 z1 y0 y1 d0 d1 d2 wz HP hT2
    have q0 := cell_of_row w1 w.heap.size 0 _ _ (0, 0) T1.out
    have q1 := cell_of_row w1 w.heap.size 1 _ _ (0, 0) T1.out
    have q2 := cell_of_row w1 w.heap.size 2 _ _ (0, 0) T1.out
    have h := HH.out
    subst h
    have hn0 : n = pre.length := by rw [← hn]; simp
    obtain ⟨k, hkc, hix, hlk⟩ := look_ix hc
    have z1 : w1.cell? ⟨r, 1, none⟩ = some (.slice A2 cols.length c2) := cell_of_row w1 r 1 _ _ (0, 0) R1.out.row
    have hr1 : r < w1.heap.size := Nat.lt_of_lt_of_le hrl M1.out.kp.size
    have CI : Hid (∀ wx, Kp r w1 wx → Calls Try.prog 36 #[.slice A2 cols.length c2, .string s.name] wx fun e w' => e = .returned (.int .i64 (k : Int)) ∧ wx = w') := fun wx hx => by
      have := YcI.idx_any (.slice A2 cols.length c2) cols s.name wx S (LAt.keep keepsStr P1.out.cols (fun y hy => hx.block y (P1.out.S y hy).1 (P1.out.S y hy).2)) (fun y hy => Nat.lt_of_lt_of_le (P1.out.S y hy).1 hx.size)
      rw [hix] at this
      exact this
    have K1 : Hid (Kp r w1 w1.drew) := ⟨Nat.le_refl _, fun _ _ _ => rfl⟩
    have K2 : Hid (Kp r w1 (w1.alloc (.cells #[.int .i64 0] 3 (0, 0))).drew) := ⟨by show _ ≤ (w1.alloc _).heap.size; rw [hsz]; omega, fun y hy _ => heap_alloc_old _ _ hy⟩
    go_upto_region 8 with fail
    go_region_with (first | (go_at_call 36; (first | (refine (CI.out _ K1.out).mono ?_; rintro e w5 ⟨rfl, rfl⟩) | (refine (CI.out _ K2.out).mono ?_; rintro e w5 ⟨rfl, rfl⟩))))
    all_goals
      go_wp2
      go_ret
      refine ⟨_, rfl, ?_, ?_, ?_⟩
      · have := ev_col (r := r) (m := cols.length) (b := w1.heap.size) (k := k) (w := (w1.alloc (.cells #[.int .i64 (k : Int)] 3 (0, 0))).drew) hkc (by show _ < (w1.alloc _).heap.size; rw [hsz]; omega) (by omega) (cell_of_row (w1.alloc (.cells #[.int .i64 (k : Int)] 3 (0, 0))) _ 0 _ _ (0, 0) (heap_alloc_new _ _))
        exact (funext hlk ▸ this)
      · rw [← hn0]; exact ⟨(heap_alloc_old _ _ hr1).trans R1.out.row⟩
      · exact (M1.out.trans (Mv.of_below (below1 w1 _))).drew
  | nt e f s he h ih =>
    intro pre post hl0 w hp
    have hat := at_last (pre := pre) (e := e) (s := s) (post := post) hl0
    obtain ⟨hlt, hget⟩ := hat
    obtain ⟨n, hn⟩ : ∃ n, pre.length + (e).length = n := ⟨_, rfl⟩
    rw [hn] at hlt hget
    have hk : pre.length + (e ++ [s]).length = n + 1 := by rw [← hn]; simp; try omega
    have hp2 : Pre r A cap A2 c2 cols l0 S (n + 1) w := by rw [← hk]; exact hp
    clear hp hk
    have HP := Seg.hid hp2
    obtain ⟨A0, c0, g, o, F, e0, OP, -⟩ := opn hp2.steps (fun y hy => (hp2.S y hy).1)
    simp only [Value.slice.injEq, true_and] at e0
    obtain ⟨rfl, rfl⟩ := e0
    obtain ⟨ea, hcp, hgw⟩ := OP.addr.resolve_left (by omega)
    subst ea
    obtain ⟨d0, d1, d2⟩ := stp_at OP (fun y hy => (hp2.S y hy).1) (Below.refl _ _) hlt
    rw [hget] at d0 d1 d2
    have hT := hp2.rd.row
    have hrl : r < w.heap.size := (Array.getElem?_eq_some_iff.1 hT).1
    clear hget OP hp2
    obtain ⟨k1, hk1⟩ : ∃ k1, n + 1 = k1 := ⟨_, rfl⟩
    rw [hk1] at hT
    have z0 := cell_of_row w r 0 _ _ (0, 0) hT
    have z1 := cell_of_row w r 1 _ _ (0, 0) hT
    have y0 := frozen_of_row w r 0 _ _ hT
    have y1 := frozen_of_row w r 1 _ _ hT
    have wz : IntKind.i64.wrap ((k1 : Int) - 1) = (n : Int) := by rw [IntKind.wrap_i64] <;> omega
    have i0 : (0 : Int) ≤ (n : Int) := by omega
    have i1 : (n : Int) < (k1 : Int) := by omega
    have i2 : (n : Int) ≤ (cap : Int) := by omega
    have i3 : n ≤ cap := by omega
    have i4 : n < k1 := by omega
    obtain ⟨op, hop⟩ : ∃ op, s.op = op := ⟨_, rfl⟩
    rw [hop] at d0 h
    have hT2 := Seg.hid hT
    have HOP := Seg.hid hop
    have HH := Seg.hid h
    clear hT hop h
    obtain ⟨w1, hw1⟩ : ∃ w1, (w.setCell ⟨r, 0, none⟩ (.slice (some ⟨g, o, none⟩) n cap)).alloc (.cells #[.int .i64 op, .int .i64 s.num, .string s.name] 32 (0, 0)) = w1 := ⟨_, rfl⟩
    have hs0 : (w.setCell ⟨r, 0, none⟩ (.slice (some ⟨g, o, none⟩) n cap)).heap.size = w.heap.size := World.size_setCell ..
    have T1 : Hid (w1.heap[w.heap.size]? = some (.cells #[.int .i64 op, .int .i64 s.num, .string s.name] 32 (0, 0))) := by
      show _ = _
      have := heap_alloc_new (w.setCell ⟨r, 0, none⟩ (.slice (some ⟨g, o, none⟩) n cap)) (.cells #[.int .i64 op, .int .i64 s.num, .string s.name] 32 (0, 0))
      rw [hs0] at this
      rw [← hw1]
      exact this
    have R1 : Hid (Rd r (some ⟨g, o, none⟩) cap A2 c2 cols.length n w1) := by
      show Rd _ _ _ _ _ _ _ _
      refine ⟨?_⟩
      rw [← hw1, heap_alloc_old _ _ (by rw [hs0]; exact hrl)]
      exact heap_setCell_same w r 0 _ _ _ hT2.out
    have M1 : Hid (Mv r w w1) := by
      show Mv _ _ _
      rw [← hw1]
      exact ⟨rfl, rfl, rfl, ⟨by rw [hsz, hs0]; omega, fun x hx hr => (heap_alloc_old _ _ (by rw [hs0]; exact hx)).trans (heap_setCell_other w _ x _ hr)⟩⟩
    have hz1 : w.heap.size < w1.heap.size := (Array.getElem?_eq_some_iff.1 T1.out).1
    have hne : w.heap.size ≠ r := by omega
    have P1 : Hid (Pre r (some ⟨g, o, none⟩) cap A2 c2 cols l0 S n w1) := HP.out.later R1.out M1.out.kp (by omega)
    go_enter Try.func29, Try.ntmps29
    go_upto_region 4 with fail
    try rw [hw1]
    clear hw1 hs0 z0 z1 y0 y1 d0 d1 d2 wz HP hT2
    have q0 := cell_of_row w1 w.heap.size 0 _ _ (0, 0) T1.out
    have q1 := cell_of_row w1 w.heap.size 1 _ _ (0, 0) T1.out
    have q2 := cell_of_row w1 w.heap.size 2 _ _ (0, 0) T1.out
    have h := HH.out
    subst h
    have hl1 : l0 = pre ++ e ++ (s :: post) := by rw [hl0]; simp
    have CN : Hid (Calls Try.prog 29 #[.pointer (some ⟨r, 0, none⟩)] w1 (Post r (some ⟨g, o, none⟩) cap A2 c2 cols pre.length f w1)) := ih pre (s :: post) hl1 w1 (by rw [hn]; exact P1.out)
    clear ih
    go_wp2_with (first | (go_at_call 29; refine CN.out.mono ?_; rintro e w2 ⟨v, rfl, hev, rd2, mv2⟩; have EV := Seg.hid hev; have RD2 := Seg.hid rd2; have MV2 := Seg.hid mv2; obtain ⟨nn, caps, rfl, -, -⟩ := hev; clear rd2 mv2))
    go_ret
    have hr2 : r < w2.heap.size := Nat.lt_of_lt_of_le hrl (Nat.le_trans M1.out.kp.size MV2.out.kp.size)
    refine ⟨_, rfl, ?_, ?_, ?_⟩
    · exact ev_not (b := w2.heap.size) (by rw [hsz]; omega) (by omega) (cell_of_row _ _ 0 _ _ (0, 0) (heap_alloc_new w2 _)) (EV.out.later (.of_below (below1 w2 _)))
    · exact ⟨(heap_alloc_old _ _ hr2).trans RD2.out.row⟩
    · exact (M1.out.trans MV2.out).trans (Mv.of_below (below1 w2 _))
  | two a f b g0 s ha hb h iha ihb =>
    intro pre post hl0 w hp
    have hat := at_last (pre := pre) (e := (a ++ b)) (s := s) (post := post) hl0
    obtain ⟨hlt, hget⟩ := hat
    obtain ⟨n, hn⟩ : ∃ n, pre.length + ((a ++ b)).length = n := ⟨_, rfl⟩
    rw [hn] at hlt hget
    have hk : pre.length + ((a ++ b) ++ [s]).length = n + 1 := by rw [← hn]; simp; try omega
    have hp2 : Pre r A cap A2 c2 cols l0 S (n + 1) w := by rw [← hk]; exact hp
    clear hp hk
    have HP := Seg.hid hp2
    obtain ⟨A0, c0, g, o, F, e0, OP, -⟩ := opn hp2.steps (fun y hy => (hp2.S y hy).1)
    simp only [Value.slice.injEq, true_and] at e0
    obtain ⟨rfl, rfl⟩ := e0
    obtain ⟨ea, hcp, hgw⟩ := OP.addr.resolve_left (by omega)
    subst ea
    obtain ⟨d0, d1, d2⟩ := stp_at OP (fun y hy => (hp2.S y hy).1) (Below.refl _ _) hlt
    rw [hget] at d0 d1 d2
    have hT := hp2.rd.row
    have hrl : r < w.heap.size := (Array.getElem?_eq_some_iff.1 hT).1
    clear hget OP hp2
    obtain ⟨k1, hk1⟩ : ∃ k1, n + 1 = k1 := ⟨_, rfl⟩
    rw [hk1] at hT
    have z0 := cell_of_row w r 0 _ _ (0, 0) hT
    have z1 := cell_of_row w r 1 _ _ (0, 0) hT
    have y0 := frozen_of_row w r 0 _ _ hT
    have y1 := frozen_of_row w r 1 _ _ hT
    have wz : IntKind.i64.wrap ((k1 : Int) - 1) = (n : Int) := by rw [IntKind.wrap_i64] <;> omega
    have i0 : (0 : Int) ≤ (n : Int) := by omega
    have i1 : (n : Int) < (k1 : Int) := by omega
    have i2 : (n : Int) ≤ (cap : Int) := by omega
    have i3 : n ≤ cap := by omega
    have i4 : n < k1 := by omega
    obtain ⟨op, hop⟩ : ∃ op, s.op = op := ⟨_, rfl⟩
    rw [hop] at d0 h
    have hT2 := Seg.hid hT
    have HOP := Seg.hid hop
    have HH := Seg.hid h
    clear hT hop h
    obtain ⟨w1, hw1⟩ : ∃ w1, (w.setCell ⟨r, 0, none⟩ (.slice (some ⟨g, o, none⟩) n cap)).alloc (.cells #[.int .i64 op, .int .i64 s.num, .string s.name] 32 (0, 0)) = w1 := ⟨_, rfl⟩
    have hs0 : (w.setCell ⟨r, 0, none⟩ (.slice (some ⟨g, o, none⟩) n cap)).heap.size = w.heap.size := World.size_setCell ..
    have T1 : Hid (w1.heap[w.heap.size]? = some (.cells #[.int .i64 op, .int .i64 s.num, .string s.name] 32 (0, 0))) := by
      show _ = _
      have := heap_alloc_new (w.setCell ⟨r, 0, none⟩ (.slice (some ⟨g, o, none⟩) n cap)) (.cells #[.int .i64 op, .int .i64 s.num, .string s.name] 32 (0, 0))
      rw [hs0] at this
      rw [← hw1]
      exact this
    have R1 : Hid (Rd r (some ⟨g, o, none⟩) cap A2 c2 cols.length n w1) := by
      show Rd _ _ _ _ _ _ _ _
      refine ⟨?_⟩
      rw [← hw1, heap_alloc_old _ _ (by rw [hs0]; exact hrl)]
      exact heap_setCell_same w r 0 _ _ _ hT2.out
    have M1 : Hid (Mv r w w1) := by
      show Mv _ _ _
      rw [← hw1]
      exact ⟨rfl, rfl, rfl, ⟨by rw [hsz, hs0]; omega, fun x hx hr => (heap_alloc_old _ _ (by rw [hs0]; exact hx)).trans (heap_setCell_other w _ x _ hr)⟩⟩
    have hz1 : w.heap.size < w1.heap.size := (Array.getElem?_eq_some_iff.1 T1.out).1
    have hne : w.heap.size ≠ r := by omega
    have P1 : Hid (Pre r (some ⟨g, o, none⟩) cap A2 c2 cols l0 S n w1) := HP.out.later R1.out M1.out.kp (by omega)
    go_enter Try.func29, Try.ntmps29
    go_upto_region 4 with fail
    try rw [hw1]
    clear hw1 hs0 z0 z1 y0 y1 d0 d1 d2 wz HP hT2
    have q0 := cell_of_row w1 w.heap.size 0 _ _ (0, 0) T1.out
    have q1 := cell_of_row w1 w.heap.size 1 _ _ (0, 0) T1.out
    have q2 := cell_of_row w1 w.heap.size 2 _ _ (0, 0) T1.out
    have h := HH.out
    have hl1 : l0 = (pre ++ a) ++ b ++ (s :: post) := by rw [hl0]; simp
    have hl2 : l0 = pre ++ a ++ (b ++ (s :: post)) := by rw [hl0]; simp
    have hlen : (pre ++ a).length + b.length = n := by rw [← hn]; simp; omega
    have hlen2 : pre.length + a.length = (pre ++ a).length := by simp
    have hn1 : (op == 1) = false := by simp; omega
    have hn2 : (op == 2) = false := by simp; omega
    have hn12 : (op == 12) = false := by simp; omega
    have CO : Hid (Calls Try.prog 41 #[.int .i64 op] w1 fun e w' => ∃ v, e = .returned v ∧ Bi v op ∧ Below w1.heap.size w1 w') := op_any op w1 h
    have CB : Hid (∀ wx, Below w1.heap.size w1 wx → Calls Try.prog 29 #[.pointer (some ⟨r, 0, none⟩)] wx (Post r (some ⟨g, o, none⟩) cap A2 c2 cols (pre ++ a).length g0 wx)) := fun wx hx => ihb (pre ++ a) (s :: post) hl1 wx (by rw [hlen]; exact P1.out.later ⟨(hx.block r (Nat.lt_of_lt_of_le hrl M1.out.kp.size)).trans R1.out.row⟩ (.of_below hx) (by omega))
    have CA : Hid (∀ wx, Kp r w1 wx → Rd r (some ⟨g, o, none⟩) cap A2 c2 cols.length (pre ++ a).length wx → Calls Try.prog 29 #[.pointer (some ⟨r, 0, none⟩)] wx (Post r (some ⟨g, o, none⟩) cap A2 c2 cols pre.length f wx)) := fun wx hx hr => iha pre (b ++ (s :: post)) hl2 wx (by rw [hlen2]; exact P1.out.later hr hx (by rw [hl1]; first | (simp; done) | (simp; omega)))
    clear iha ihb
    go_upto_region 14 with (first | (go_at_call 41; refine CO.out.mono ?_; rintro e w2 ⟨vo, rfl, hbi, b2⟩; have BI := Seg.hid hbi; have B2 := Seg.hid b2; obtain ⟨no, rfl, -, -⟩ := hbi; clear b2) | (go_at_call 29; refine (CB.out _ B2.out).mono ?_; rintro e w3 ⟨vb, rfl, hev, rd3, mv3⟩; have EVB := Seg.hid hev; have RD3 := Seg.hid rd3; have MV3 := Seg.hid mv3; obtain ⟨nb, capsb, rfl, -, -⟩ := hev; clear rd3 mv3))
    have hr3 : r < w3.heap.size := Nat.lt_of_lt_of_le hrl (Nat.le_trans M1.out.kp.size (Nat.le_trans B2.out.size MV3.out.kp.size))
    obtain ⟨w4, hw4⟩ : ∃ w4, (w3.alloc (.cells #[.func (.func no) #[] #[]] 64 (0, 0))).alloc (.cells #[.func (.func nb) #[] capsb] 44 (0, 0)) = w4 := ⟨_, rfl⟩
    have B4 : Hid (Below w3.heap.size w3 w4) := by show Below _ _ _; rw [← hw4]; exact below2 _ _ _
    have T4 : Hid (w4.heap[w3.heap.size]? = some (.cells #[.func (.func no) #[] #[]] 64 (0, 0))) := by show _ = _; rw [← hw4]; exact (heap_alloc_old _ _ (by rw [hsz]; omega)).trans (heap_alloc_new _ _)
    have T5 : Hid (w4.heap[w3.heap.size + 1]? = some (.cells #[.func (.func nb) #[] capsb] 44 (0, 0))) := by
      show _ = _
      have := heap_alloc_new (w3.alloc (.cells #[.func (.func no) #[] #[]] 64 (0, 0))) (.cells #[.func (.func nb) #[] capsb] 44 (0, 0))
      rw [hsz] at this
      rw [← hw4]
      exact this
    try rw [hw4]
    clear hw4
    have RD4 : Hid (Rd r (some ⟨g, o, none⟩) cap A2 c2 cols.length (pre ++ a).length w4) := ⟨(B4.out.block r hr3).trans RD3.out.row⟩
    have K4 : Hid (Kp r w1 w4) := (Kp.of_below B2.out).trans (MV3.out.kp.trans (.of_below B4.out))
    go_wp2_with (first | (go_at_call 29; refine (CA.out _ K4.out RD4.out).mono ?_; rintro e w5 ⟨va, rfl, hev, rd5, mv5⟩; have EVA := Seg.hid hev; have RD5 := Seg.hid rd5; have MV5 := Seg.hid mv5; obtain ⟨na, capsa, rfl, -, -⟩ := hev; clear rd5 mv5))
    go_ret
    have h34 : w3.heap.size + 1 < w4.heap.size := (Array.getElem?_eq_some_iff.1 T5.out).1
    have h45 := MV5.out.kp.size
    have K6 : Hid (Kp r w4 (w5.alloc (.cells #[.func (.func na) #[] capsa] 44 (0, 0)))) := MV5.out.kp.trans (.of_below (below1 w5 _))
    have s6 := hsz w5 (.cells #[.func (.func na) #[] capsa] 44 (0, 0))
    refine ⟨_, rfl, ?_, ?_, ?_⟩
    · refine ev_two (b1 := w3.heap.size) (b2 := w5.heap.size) (b3 := w3.heap.size + 1) (fun row hr => ex_in ha hr) (fun row hr => ex_in hb hr) (by omega) (by omega) (by omega) (by omega) (by omega) (by omega) ?_ ?_ ?_ (by rw [HOP.out]; exact BI.out) (EVA.out.later (.of_below (below1 w5 _))) (EVB.out.later ((Kp.of_below B4.out).trans K6.out))
      · exact K6.out.cell (by omega) (by omega) (cell_of_row w4 _ 0 _ _ (0, 0) T4.out)
      · exact cell_of_row _ _ 0 _ _ (0, 0) (heap_alloc_new w5 _)
      · exact K6.out.cell (by omega) (by omega) (cell_of_row w4 _ 0 _ _ (0, 0) T5.out)
    · exact ⟨(heap_alloc_old _ _ (by omega)).trans RD5.out.row⟩
    · exact (((M1.out.trans (Mv.of_below B2.out)).trans MV3.out).trans (Mv.of_below B4.out)).trans (MV5.out.trans (Mv.of_below (below1 w5 _)))
end Go.Proofs.Ytclkcnkjjoolcaa.RnN
