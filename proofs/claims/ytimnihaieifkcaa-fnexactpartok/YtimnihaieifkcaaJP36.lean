/- PartOk of the program, whole; What the frame tells of a list that came in, of any element. -/
import Derived.ProofKit
import Derived.Deep.SlicePairs
import Derived.Test.YtimnihaieifkcaaJP30
import Derived.Test.YtimnihaieifkcaaJP03
namespace Go.Proofs.Ytimnihaieifkcaa.PoI
set_option maxRecDepth 8000
open Go.RowKit
open Ls Asc PoP
open Recs (hsz below1 below2 chain chainD Bat)
set_option linter.unusedVariables false
theorem six {w : World} {g ty : Nat} {a b c d e f : Value} (h : w.heap[g]? = some (.cells #[a, b, c, d, e, f] ty (0, 0))) : w.cell? ⟨g, 0, none⟩ = some a ∧ w.cell? ⟨g, 1, none⟩ = some b ∧ w.cell? ⟨g, 2, none⟩ = some c ∧ w.cell? ⟨g, 3, none⟩ = some d ∧ w.cell? ⟨g, 4, none⟩ = some e ∧ w.cell? ⟨g, 5, none⟩ = some f :=
  ⟨cell_of_row w g 0 _ _ (0, 0) h, cell_of_row w g 1 _ _ (0, 0) h, cell_of_row w g 2 _ _ (0, 0) h, cell_of_row w g 3 _ _ (0, 0) h, cell_of_row w g 4 _ _ (0, 0) h, cell_of_row w g 5 _ _ (0, 0) h⟩
set_option maxHeartbeats 1600000 in
theorem impl_any (v : Value) (p : Prt) (w : World) (lo b : Nat) (hv : PrtAt w (seg lo b) v p) (hb : b ≤ w.heap.size) (hf : szPrt p ≤ 1048576) :
    Calls Try.prog 8 #[v] w fun e w' => e = .returned (.bool (PoP.part p)) ∧ Below w.heap.size w w' := by
  have hS : ∀ g, seg lo b g → g < w.heap.size := fun g hg => Nat.lt_of_lt_of_le hg.2 hb
  have HV := Seg.hid hv
  obtain ⟨A0, c0, A3, c3, A4, c4, rfl⟩ := form hv
  have HF := Seg.hid hf
  clear hv hf
  go_enter Try.func8, Try.ntmps8
  have no : ∀ (w' : World), PoP.part p = false → Below w.heap.size w w' → (Ending.returned (.bool false) = .returned (.bool (PoP.part p)) ∧ Below w.heap.size w w') := fun w' h b => ⟨by rw [h], b⟩
  have NO := Seg.hid no
  clear no
  go_wp2_with fail
  cases h1 : inR 1 p.reps.length 5 with
  | false =>
    refine (InB.within_b _ _ _ false h1 _).mono ?_
    rintro e w1 ⟨rfl, rfl⟩
    have Z : Hid (PoP.part p = false) := by show _ = _; simp [PoP.part, PoP.front, h1]
    clear h1
    go_wp2
    go_ret
    exact NO.out _ Z.out (below1 _ _)
  | true =>
  refine (InB.within_b _ _ _ true h1 _).mono ?_
  rintro e w1 ⟨rfl, rfl⟩
  have K1 := Seg.hid h1
  have hn5 : 1 ≤ p.reps.length ∧ p.reps.length ≤ 5 := by simp [inR] at h1; omega
  clear h1
  go_wp2_with fail
  cases h2 : inR 1 p.least 5 with
  | false =>
    refine (InB.within_b _ _ _ false h2 _).mono ?_
    rintro e w1 ⟨rfl, rfl⟩
    have Z : Hid (PoP.part p = false) := by show _ = _; simp [PoP.part, PoP.front, h2]
    clear h2
    go_wp2
    go_ret
    exact NO.out _ Z.out (below1 _ _)
  | true =>
  refine (InB.within_b _ _ _ true h2 _).mono ?_
  rintro e w1 ⟨rfl, rfl⟩
  have K2 := Seg.hid h2
  clear h2
  go_wp2_with fail
  cases h3 : inR 0 p.epoch 1000000 with
  | false =>
    refine (InB.within_b _ _ _ false h3 _).mono ?_
    rintro e w1 ⟨rfl, rfl⟩
    have Z : Hid (PoP.part p = false) := by show _ = _; simp [PoP.part, PoP.front, h3]
    clear h3
    go_wp2
    go_ret
    exact NO.out _ Z.out (below1 _ _)
  | true =>
  refine (InB.within_b _ _ _ true h3 _).mono ?_
  rintro e w1 ⟨rfl, rfl⟩
  have KP : Hid (PoP.part p = (reps p.epoch p.reps && (insy p && (lead p && known p)))) := by show _ = _; simp [PoP.part, PoP.front, K1.out, K2.out, h3]
  clear h3 K1 K2
  go_upto_region 3 with fail
  have S0 : Hid (Sr w (w.alloc (.cells #[.slice A0 p.reps.length c0, .int .i64 p.leader, .int .i64 p.epoch, .slice A3 p.insync.length c3, .slice A4 p.known.length c4, .int .i64 p.least] 30 (0, 0))) p A0 A3 A4 c0 c3 c4) := ⟨heap_alloc_new _ _, below1 _ _⟩
  have Q0 : Hid (∀ wx, Below w.heap.size w wx → PrtAt wx (seg lo b) (.agg #[.slice A0 p.reps.length c0, .int .i64 p.leader, .int .i64 p.epoch, .slice A3 p.insync.length c3, .slice A4 p.known.length c4, .int .i64 p.least]) p ∧ b ≤ wx.heap.size) := fun wx bx => ⟨HV.out.below bx hS, Nat.le_trans hb bx.size⟩
  have NX : Hid (∀ (wx w' : World), Sr w wx p A0 A3 A4 c0 c3 c4 → Below wx.heap.size wx w' → Sr w w' p A0 A3 A4 c0 c3 c4) := fun wx w' h b => ⟨(b.block _ (Array.getElem?_eq_some_iff.1 h.rp).1).trans h.rp, chain h.bel b⟩
  generalize w.alloc (.cells #[.slice A0 p.reps.length c0, .int .i64 p.leader, .int .i64 p.epoch, .slice A3 p.insync.length c3, .slice A4 p.known.length c4, .int .i64 p.least] 30 (0, 0)) = w2 at *
  go_wp2_with (refine wpList_load_row rfl 30 _ rfl w.heap.size rfl _ _ _ _ S0.out.rp Try.underlying30 rfl infoPrt ?_)
  refine (reps_any _ p _ w2 lo b (Q0.out w2 S0.out.bel).1 (Q0.out w2 S0.out.bel).2 HF.out hn5.2 rfl).mono ?_
  rintro e w3 ⟨rfl, b3⟩
  have S3 := Seg.hid (NX.out _ _ S0.out b3)
  clear b3
  cases g1 : reps p.epoch p.reps with
  | false =>
    have Z : Hid (PoP.part p = false) := by show _ = _; rw [KP.out, g1]; rfl
    clear g1
    go_wp2
    go_ret
    exact NO.out _ Z.out S3.out.bel
  | true =>
  have K3 := Seg.hid g1
  clear g1
  obtain ⟨x0, x1, x2, x3, x4, x5⟩ := six S3.out.rp
  go_wp2_with fail
  refine (insy_any _ p _ w3 lo b (Q0.out w3 S3.out.bel).1 (Q0.out w3 S3.out.bel).2 hn5 rfl).mono ?_
  rintro e w4 ⟨rfl, b4⟩
  have S4 := Seg.hid (NX.out _ _ S3.out b4)
  clear b4 x0 x1 x2 x3 x4 x5
  cases g2 : insy p with
  | false =>
    have Z : Hid (PoP.part p = false) := by show _ = _; rw [KP.out, g2]; simp
    clear g2
    go_wp2
    go_ret
    exact NO.out _ Z.out S4.out.bel
  | true =>
  have K4 := Seg.hid g2
  clear g2
  obtain ⟨x0, x1, x2, x3, x4, x5⟩ := six S4.out.rp
  go_wp2_with fail
  refine (lead_any _ p _ w4 lo b (Q0.out w4 S4.out.bel).1 (Q0.out w4 S4.out.bel).2 hn5 rfl).mono ?_
  rintro e w5 ⟨rfl, b5⟩
  have S5 := Seg.hid (NX.out _ _ S4.out b5)
  clear b5 x0 x1 x2 x3 x4 x5
  cases g3 : lead p with
  | false =>
    have Z : Hid (PoP.part p = false) := by show _ = _; rw [KP.out, g3]; simp
    clear g3
    go_wp2
    go_ret
    exact NO.out _ Z.out S5.out.bel
  | true =>
  have Z : Hid (known p = PoP.part p) := by show _ = _; rw [KP.out, K3.out, K4.out, g3]; rfl
  clear g3
  obtain ⟨x0, x1, x2, x3, x4, x5⟩ := six S5.out.rp
  go_wp2_with fail
  refine (known_any _ p _ w5 lo b (Q0.out w5 S5.out.bel).1 (Q0.out w5 S5.out.bel).2 Z.out).mono ?_
  rintro e w6 ⟨rfl, b6⟩
  have S6 := Seg.hid (NX.out _ _ S5.out b6)
  clear b6 x0 x1 x2 x3 x4 x5
  go_wp2
  go_ret
  exact ⟨rfl, S6.out.bel⟩
end Go.Proofs.Ytimnihaieifkcaa.PoI
namespace Go.Proofs.Ytimnihaieifkcaa.Ls
set_option maxRecDepth 8000
open Go.ChangeShapes Go.WideShapes Go.ChangeAt Go.RowKit Go.Deep
open Recs
set_option linter.unusedVariables false
/-- All blocks of a world. -/
def All (W : World) (g : Nat) : Prop := g < W.heap.size
section
variable {H : Type} {enc : TypeId × Value → H} {W : World} {sp : Nat → Bool} {held : Bool}
theorem cellsI : Try.prog.cellsOf 3 = 1 := by kernel_rfl
theorem open_list {T : Type} [Inhabited T] {E : Elt T} {Fine : T → Prop} {tS tE nf : Nat} {fuel : Nat} {cs : List Value} {x : DataW H × List MemPlace} (hK : Keeps nf E) (hnf : 0 < nf) (hU : Try.prog.underlying tS = some (.slice tE)) (hN : Try.prog.cellsOf tE = nf)
    (hel : ∀ (fuel : Nat) (cs : List Value) (x : DataW H × List MemPlace), DataW.trod enc Try.prog W 0 sp held fuel tE cs = some x → ∃ (f : Nat → Value) (u : T), (∀ q, q < nf → cs[q]? = some (f q)) ∧ E W (All W) f u ∧ Fine u)
    (h : DataW.trod enc Try.prog W 0 sp held fuel tS cs = some x) :
    ∃ (v : Value) (us : List T), cs = [v] ∧ LAt nf E W (All W) v us ∧ FineL Fine us := by
  rcases open_slice hU h with ⟨rfl, _⟩ | ⟨a, len, cap, m, n, D, Pl, rfl, _, hl, hm, hmm, _, hx⟩
  · exact ⟨_, [], rfl, LAt.nil _ _ _ _, by simp, fun i hi => by simp at hi⟩
  have hlm : len ≤ m := by rw [hmm]; split <;> omega
  rw [hN] at hx
  obtain ⟨f, hf⟩ := choose_lt (α := (Nat → Value) × T) (n := len) (p := fun i q => (∃ cs', W.cells? 0 (a.add (i * nf)) nf = some cs' ∧ ∀ j, j < nf → cs'[j]? = some (q.1 j)) ∧ E W (All W) q.1 q.2 ∧ Fine q.2) (fun i hi => by
    obtain ⟨cs', h1, h2⟩ := hx i (by omega)
    obtain ⟨f, u, hc, hh, hfi⟩ := hel _ _ _ h2
    exact ⟨(f, u), ⟨cs', h1, hc⟩, hh, hfi⟩)
  have hlen : ((List.range len).map fun i => (f i).2).length = len := by simp
  have hget : ∀ i, i < len → ((List.range len).map fun i => (f i).2).getD i default = (f i).2 := fun i hi => by simp [hi]
  refine ⟨_, (List.range len).map fun i => (f i).2, rfl, ⟨?_, some a, cap, by rw [hlen], ?_⟩, ?_, ?_⟩
  · rw [hlen]; unfold maxLen at hm; omega
  · by_cases hz : len = 0
    · left; rw [hlen]; exact hz
    · right
      obtain ⟨b, off, spot⟩ := a
      have cell : ∀ i, i < len → ∀ j, j < nf → W.cell? (((⟨b, off, spot⟩ : Addr).add (i * nf)).add j) = some ((f i).1 j) := fun i hi j hj => by
        obtain ⟨⟨cs', h1, h2⟩, _⟩ := hf i hi
        rw [(World.cells?_some h1).2.2 j hj, h2 j hj]
      have hc := cell 0 (by omega) 0 hnf
      have hspot : spot = none := by simpa [Addr.add] using World.cell?_spot hc
      subst hspot
      have hlt : b < W.heap.size := by have := World.block_lt_of_cell? W _ hc; simpa [Addr.add] using this
      refine ⟨b, off, fun i j => (f i).1 j, rfl, hlt, by rw [hlen]; exact hl, ?_, ?_⟩
      · rw [hlen]
        intro i hi j hj
        have := cell i hi j hj
        rw [add_add, Addr.add_mid, ← Nat.add_assoc] at this
        exact this
      · rw [hlen]
        intro i hi
        rw [hget i hi]
        exact (hf i hi).2.1
  · rw [hlen]; omega
  · rw [hlen]
    intro i hi
    rw [hget i hi]
    exact (hf i hi).2.2
theorem open_ints {fuel : Nat} {cs : List Value} {x : DataW H × List MemPlace} (h : DataW.trod enc Try.prog W 0 sp held fuel 23 cs = some x) :
    ∃ (v : Value) (us : List Int), cs = [v] ∧ IntsAt W (All W) v us ∧ FineL I64 us :=
  open_list keepsI (by omega) Try.underlying23 cellsI (fun fuel cs x h => by
    obtain ⟨n, e, _, f⟩ := DataW.trod_int Try.underlying3 h
    subst e
    refine ⟨fun _ => .int .i64 n, n, fun q hq => ?_, rfl, bounds_i64 f⟩
    match q, hq with
    | 0, _ => rfl) h
end
end Go.Proofs.Ytimnihaieifkcaa.Ls
