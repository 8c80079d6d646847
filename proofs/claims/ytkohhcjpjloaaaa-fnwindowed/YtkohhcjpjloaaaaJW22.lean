/- The model's l14Bent. -/
import Derived.Deep.Cut
import Derived.Deep.CutRange
import Derived.BigQuiet
import Derived.WalkSmall
import Derived.Test.YtkohhcjpjloaaaaJW19
import Derived.Test.YtkohhcjpjloaaaaJW20
import Derived.Test.YtkohhcjpjloaaaaJW21
namespace Go.Proofs.Ytkohhcjpjloaaaa.DwB
set_option maxRecDepth 8000
open Go.RowKit
open Ls Lp QtP DsP QsP DwQ DwG DwC DwE AppW
open Draw (Cur Lft Bytes)
open Recs (hsz below1 below2 chain)
set_option linter.unusedVariables false
theorem infoT : (Try.prog.info? 9).map (fun i => (i.zero, i.size, i.bytes)) = some (some (.string ⟨#[]⟩), 1, 16) := by kernel_rfl
theorem infoSt : (Try.prog.info? 55).map (fun i => (i.zero, i.size, i.bytes)) = some (some (.agg #[.int .i64 0, .int .i64 0, .string ⟨#[]⟩]), 3, 32) := by kernel_rfl
theorem infoGz : (Try.prog.info? 35).map (fun i => (i.zero, i.size, i.bytes)) = some (some (.agg #[.int .i64 0, .slice none 0 0, .string ⟨#[]⟩]), 3, 48) := by kernel_rfl
theorem row_form {w : World} {B : Nat} {v : Value} {ns : List ByteArray} (h : Row w B v ns) : ∃ A c, v = .slice A ns.length c := by
  rcases h.2 with ⟨h1, h2⟩ | ⟨g, cap, cur, h1, -⟩
  · exact ⟨none, 0, by rw [h1, h2]⟩
  · exact ⟨_, cap, h1⟩
theorem own_one {w : World} {B ty k n : Nat} {v : Value} {cs : List Value} (h : w.ownsRow B ty k v n cs) : ∃ A m c, v = .slice A m c := by
  rcases h.2 with ⟨h1, h2⟩ | ⟨g, cap, cur, h1, -⟩
  · exact ⟨none, 0, 0, h1⟩
  · exact ⟨_, _, _, h1⟩
theorem qv_one {q : Qry} {v5 v6 v10 : Value} (h5 : ∃ A m c, v5 = .slice A m c) (h6 : ∃ A m c, v6 = .slice A m c) (h10 : ∃ A m c, v10 = .slice A m c) : (qv q v5 v6 v10).all (·.oneCell') = true := by
  obtain ⟨A, m, c, rfl⟩ := h5
  obtain ⟨A, m, c, rfl⟩ := h6
  obtain ⟨A, m, c, rfl⟩ := h10
  simp [Value.oneCell']
theorem pickI_new {w : World} {b : Nat} {A : Option Addr} {n c : Nat} (l : List Int) (hc : Cur w b A n c) (hl0 : 0 < l.length) (hl1 : l.length ≤ 1000) (cs : Array Value) (hcs : cs = (l.map (Value.int .i64)).toArray) :
    Calls Try.prog 13 #[.pointer (some ⟨b, 0, none⟩), .slice (some ⟨w.heap.size, 0, none⟩) l.length l.length] (w.alloc (.cells cs 3 (0, 0))) fun e w' => (∃ x : Int, e = .returned (.int .i64 x)) ∧ Lft w w' b A n c := by
  subst hcs
  refine (Draw.pickInt_any b A n c w.heap.size l.length (fun i => l.getD i 0) _ (hc.alloc _) hl0 hl1 (by rw [hsz]; omega) (by have := hc.lt; omega) (fun i hi => ?_)).mono ?_
  · rw [cell_of_row _ _ i _ _ (0, 0) (heap_alloc_new _ _)]
    simp [hi]
  · rintro e w' ⟨⟨i, hi, rfl⟩, L⟩
    exact ⟨⟨_, rfl⟩, ⟨L.cur, (World.grownBy_alloc _ _ _).trans L.grown⟩⟩
def sv (m : Nat) : ByteArray := match m with
  | 1 => ⟨#[98]⟩ | 2 => ⟨#[99]⟩ | 3 => ⟨#[100]⟩ | 4 => ⟨#[101]⟩ | 5 => ⟨#[102]⟩ | 6 => ⟨#[103]⟩ | 7 => ⟨#[104]⟩ | 8 => ⟨#[105]⟩ | _ => ⟨#[]⟩
def gv (m : Nat) : ByteArray := match m with
  | 1 => ⟨#[103, 98]⟩ | 2 => ⟨#[103, 99]⟩ | 3 => ⟨#[103, 100]⟩ | 4 => ⟨#[103, 101]⟩ | 5 => ⟨#[103, 102]⟩ | 6 => ⟨#[103, 103]⟩ | 7 => ⟨#[103, 104]⟩ | 8 => ⟨#[103, 105]⟩ | _ => ⟨#[]⟩
theorem gv_size (m : Nat) : (gv m).size ≤ 20 := by
  unfold gv
  split <;> decide
theorem le20 {x : ByteArray} (h : x.size ≤ 10) : x.size ≤ 20 := Nat.le_trans h (by decide)
set_option maxHeartbeats 25600000 in
theorem bent_any (b : Nat) (A : Option Addr) (n c : Nat) (w w1 : World) (q : Qry) (v5 v6 v10 : Value) (ps : List (Gqt × Value)) (hc : Cur w b A n c) (hq : Qo w w1 b A n c q v5 v6 v10 ps) (hp : 0 < ps.length) (ob : Nat) (cb : Array Value) (hob : w.heap.size ≤ ob) (ho : w1.heap[ob]? = some (.cells cb 28 (0, 0))) :
    Calls Try.prog 11 #[.pointer (some ⟨b, 0, none⟩), .agg (qv q v5 v6 v10)] w1 fun e w' => ∃ q' v5' v6' v10' ps', e = .returned (.agg (qv q' v5' v6' v10')) ∧ Bo w w' b A n c q' v5' v6' v10' ps' ∧ w'.heap[ob]? = some (.cells cb 28 (0, 0)) := by
  have CA := Seg.hid hc
  have hb := hc.lt
  clear hc
  obtain ⟨i0, hi, hz0, hz1, hz2⟩ := info_parts infoT
  obtain ⟨iS, hiS, hsz0, hsz1, hsz2⟩ := info_parts infoSt
  obtain ⟨iG, hiG, hgz0, hgz1, hgz2⟩ := info_parts infoGz
  obtain ⟨p0, r, rfl⟩ : ∃ p0 r, ps = p0 :: r := by cases ps with | nil => simp at hp | cons a r => exact ⟨a, r, rfl⟩
  have L5 : Hid (q.gps.length ≤ 5 ∧ r.length ≤ 9 ∧ p0.1.steps.length ≤ 10) := by
    have h1 := hq.sz.gps.1
    have h2 := hq.sz.gets.1
    have h3 := (hq.sz.gets.2 p0 (List.mem_cons_self ..)).2.1
    simp only [List.length_cons] at h2
    exact ⟨h1, by omega, h3⟩
  have DIS := Seg.hid (hq.dis p0 r rfl)
  have QO := Seg.hid (of_qo hq)
  obtain ⟨A5, m5, c5', e5⟩ := own_one hq.wh
  obtain ⟨A6, c6', e6⟩ := row_form hq.gps
  obtain ⟨g, cap, cur, e10, -⟩ := get0 hq.gets
  subst e5 e6 e10
  obtain ⟨k0, vp0⟩ := p0
  obtain ⟨Ap, cp, ep⟩ := (hq.el (k0, vp0) (List.mem_cons_self ..)).form
  dsimp only at ep
  subst ep
  clear hq hp
  go_enter Try.func11, Try.ntmps11
  go_upto_region 1 with fail
  have Q1 := Seg.hid (Qb.start hb QO.out hob ho)
  clear hob ho
  generalize hwa : (w1.alloc (.cells (qv q (.slice A5 m5 c5') (.slice A6 q.gps.length c6') (.slice (some ⟨g, 0, none⟩) (r.length + 1) cap)) 28 (0, 0))).alloc (.cells zq 28 (0, 0)) = wa at *
  clear hwa QO
  generalize w1.heap.size = gq at *
  go_upto_region 4 with (go_at_call 12; refine (Draw.below_any b A n c 14 wa Q1.out.o.lft.cur (by decide) (by decide)).mono ?_; rintro e w2 ⟨⟨y, ya, yb, rfl⟩, M⟩; have Q2 := Seg.hid (Q1.out.draw hb M); clear M Q1)
  have hy : y = 0 ∨ y = 1 ∨ y = 2 ∨ y = 3 ∨ y = 4 ∨ y = 5 ∨ y = 6 ∨ y = 7 ∨ y = 8 ∨ y = 9 ∨ y = 10 ∨ y = 11 ∨ y = 12 ∨ y = 13 := by omega
  clear ya yb
  rcases hy with rfl | rfl | rfl | rfl | rfl | rfl | rfl | rfl | rfl | rfl | rfl | rfl | rfl | rfl
  · go_upto_region 30 with (go_at_call 22; refine (pickS_new [(⟨#[]⟩ : ByteArray), (⟨#[57]⟩ : ByteArray), (⟨#[119, 104, 101, 114, 101]⟩ : ByteArray), (⟨#[117, 115, 101, 114, 115]⟩ : ByteArray), (⟨#[110, 111]⟩ : ByteArray)] Q2.out.o.lft.cur (by decide) (by decide) (by decide) _ rfl).mono ?_; rintro e w3 ⟨⟨x, hx, rfl⟩, M⟩; have Q3 := Seg.hid (Q2.out.draw hb M); clear M; have hf := qfroz Q3.out.var; obtain ⟨c0, c1, c2, c3, c4, c5, c6, c7, c8, c9, c10⟩ := qcells Q3.out.var)
    have N := Q3.out.o.sz.names
    have QN := Seg.hid (Q3.out.set CA.out 0 (.string x) { q with fr := x } rfl rfl rfl rfl ⟨le20 hx, N.2.1, N.2.2.1, N.2.2.2⟩)
    have VAR := Seg.hid QN.out.var
    obtain ⟨t4, w4', o4⟩ := Qb.out CA.out QN.out
    dsimp only at t4 w4' o4
    have T4 := Seg.hid t4
    have W4 := Seg.hid w4'
    have O4 := Seg.hid o4
    clear t4 w4' o4
    have ON : Hid ((qv { q with fr := x } (.slice A5 m5 c5') (.slice A6 q.gps.length c6') (.slice (some ⟨g, 0, none⟩) (r.length + 1) cap)).all (·.oneCell') = true) := qv_one ⟨_, _, _, rfl⟩ ⟨_, _, _, rfl⟩ ⟨_, _, _, rfl⟩
    go_wp2_with (first | (refine wpList_load_row rfl 28 _ rfl gq rfl _ _ _ _ VAR.out Try.underlying28 rfl infoQ ?_) | (refine wpList_store_mid rfl 28 _ _ rfl (gq + 1) 0 (qv { q with fr := x } (.slice A5 m5 c5') (.slice A6 q.gps.length c6') (.slice (some ⟨g, 0, none⟩) (r.length + 1) cap)) rfl rfl T4.out infoQ ON.out ?_))
    exact bodyPost_ret (v := .agg (qv { q with fr := x } (.slice A5 m5 c5') (.slice A6 q.gps.length c6') (.slice (some ⟨g, 0, none⟩) (r.length + 1) cap))) (results_cell_row rfl _ _ (gq + 1) _ _ _ _ rfl W4.out Try.underlying28 rfl infoQ) rfl (by first | exact ⟨{ q with fr := x }, _, _, _, rfl, ⟨((k0, .slice Ap k0.steps.length cp) :: r), O4.out.1⟩, O4.out.2⟩ | exact ⟨{ q with fr := x }, _, _, _, ((k0, .slice Ap k0.steps.length cp) :: r), rfl, O4.out.1, O4.out.2⟩)
  · go_upto_region 30 with (go_at_call 22; refine (pickS_new [(⟨#[]⟩ : ByteArray), (⟨#[97, 103, 101]⟩ : ByteArray), (⟨#[111, 110]⟩ : ByteArray), (⟨#[117, 115, 101, 114]⟩ : ByteArray)] Q2.out.o.lft.cur (by decide) (by decide) (by decide) _ rfl).mono ?_; rintro e w3 ⟨⟨x, hx, rfl⟩, M⟩; have Q3 := Seg.hid (Q2.out.draw hb M); clear M; have hf := qfroz Q3.out.var; obtain ⟨c0, c1, c2, c3, c4, c5, c6, c7, c8, c9, c10⟩ := qcells Q3.out.var)
    have N := Q3.out.o.sz.names
    have QN := Seg.hid (Q3.out.set CA.out 3 (.string x) { q with on := x } rfl rfl rfl rfl ⟨N.1, N.2.1, le20 hx, N.2.2.2⟩)
    have VAR := Seg.hid QN.out.var
    obtain ⟨t4, w4', o4⟩ := Qb.out CA.out QN.out
    dsimp only at t4 w4' o4
    have T4 := Seg.hid t4
    have W4 := Seg.hid w4'
    have O4 := Seg.hid o4
    clear t4 w4' o4
    have ON : Hid ((qv { q with on := x } (.slice A5 m5 c5') (.slice A6 q.gps.length c6') (.slice (some ⟨g, 0, none⟩) (r.length + 1) cap)).all (·.oneCell') = true) := qv_one ⟨_, _, _, rfl⟩ ⟨_, _, _, rfl⟩ ⟨_, _, _, rfl⟩
    go_wp2_with (first | (refine wpList_load_row rfl 28 _ rfl gq rfl _ _ _ _ VAR.out Try.underlying28 rfl infoQ ?_) | (refine wpList_store_mid rfl 28 _ _ rfl (gq + 1) 0 (qv { q with on := x } (.slice A5 m5 c5') (.slice A6 q.gps.length c6') (.slice (some ⟨g, 0, none⟩) (r.length + 1) cap)) rfl rfl T4.out infoQ ON.out ?_))
    exact bodyPost_ret (v := .agg (qv { q with on := x } (.slice A5 m5 c5') (.slice A6 q.gps.length c6') (.slice (some ⟨g, 0, none⟩) (r.length + 1) cap))) (results_cell_row rfl _ _ (gq + 1) _ _ _ _ rfl W4.out Try.underlying28 rfl infoQ) rfl (by first | exact ⟨{ q with on := x }, _, _, _, rfl, ⟨((k0, .slice Ap k0.steps.length cp) :: r), O4.out.1⟩, O4.out.2⟩ | exact ⟨{ q with on := x }, _, _, _, ((k0, .slice Ap k0.steps.length cp) :: r), rfl, O4.out.1, O4.out.2⟩)
  · obtain ⟨_, _, _, _, _, _, _, _, e8, _, _⟩ := qcells Q2.out.var
    go_upto_region 30 with (go_at_call 13; refine (pickI_new [-1, 3, 1000000000000, 1000000000001] Q2.out.o.lft.cur (by simp) (by simp) _ rfl).mono ?_; rintro e w3 ⟨⟨x, rfl⟩, M⟩; have Q3 := Seg.hid (Q2.out.draw hb M); clear M; clear e8; have hf := qfroz Q3.out.var; obtain ⟨c0, c1, c2, c3, c4, c5, c6, c7, c8, c9, c10⟩ := qcells Q3.out.var)
    have QN := Seg.hid (Q3.out.set CA.out 2 (.int .i64 x) { q with wn := x } rfl rfl rfl rfl Q3.out.o.sz.names)
    have VAR := Seg.hid QN.out.var
    obtain ⟨t4, w4', o4⟩ := Qb.out CA.out QN.out
    dsimp only at t4 w4' o4
    have T4 := Seg.hid t4
    have W4 := Seg.hid w4'
    have O4 := Seg.hid o4
    clear t4 w4' o4
    have ON : Hid ((qv { q with wn := x } (.slice A5 m5 c5') (.slice A6 q.gps.length c6') (.slice (some ⟨g, 0, none⟩) (r.length + 1) cap)).all (·.oneCell') = true) := qv_one ⟨_, _, _, rfl⟩ ⟨_, _, _, rfl⟩ ⟨_, _, _, rfl⟩
    go_wp2_with (first | (refine wpList_load_row rfl 28 _ rfl gq rfl _ _ _ _ VAR.out Try.underlying28 rfl infoQ ?_) | (refine wpList_store_mid rfl 28 _ _ rfl (gq + 1) 0 (qv { q with wn := x } (.slice A5 m5 c5') (.slice A6 q.gps.length c6') (.slice (some ⟨g, 0, none⟩) (r.length + 1) cap)) rfl rfl T4.out infoQ ON.out ?_))
    exact bodyPost_ret (v := .agg (qv { q with wn := x } (.slice A5 m5 c5') (.slice A6 q.gps.length c6') (.slice (some ⟨g, 0, none⟩) (r.length + 1) cap))) (results_cell_row rfl _ _ (gq + 1) _ _ _ _ rfl W4.out Try.underlying28 rfl infoQ) rfl (by first | exact ⟨{ q with wn := x }, _, _, _, rfl, ⟨((k0, .slice Ap k0.steps.length cp) :: r), O4.out.1⟩, O4.out.2⟩ | exact ⟨{ q with wn := x }, _, _, _, ((k0, .slice Ap k0.steps.length cp) :: r), rfl, O4.out.1, O4.out.2⟩)
  · go_upto_region 30 with (go_at_call 22; refine (pickS_new [(⟨#[117, 115, 101, 114, 115]⟩ : ByteArray), (⟨#[111, 114, 100, 101, 114, 115]⟩ : ByteArray), (⟨#[]⟩ : ByteArray)] Q2.out.o.lft.cur (by decide) (by decide) (by decide) _ rfl).mono ?_; rintro e w3 ⟨⟨x, hx, rfl⟩, M⟩; have Q3 := Seg.hid (Q2.out.draw hb M); clear M; have hf := qfroz Q3.out.var; obtain ⟨c0, c1, c2, c3, c4, c5, c6, c7, c8, c9, c10⟩ := qcells Q3.out.var)
    have N := Q3.out.o.sz.names
    have QN := Seg.hid (Q3.out.set CA.out 4 (.string x) { q with lk := x } rfl rfl rfl rfl ⟨N.1, N.2.1, N.2.2.1, le20 hx⟩)
    have VAR := Seg.hid QN.out.var
    obtain ⟨t4, w4', o4⟩ := Qb.out CA.out QN.out
    dsimp only at t4 w4' o4
    have T4 := Seg.hid t4
    have W4 := Seg.hid w4'
    have O4 := Seg.hid o4
    clear t4 w4' o4
    have ON : Hid ((qv { q with lk := x } (.slice A5 m5 c5') (.slice A6 q.gps.length c6') (.slice (some ⟨g, 0, none⟩) (r.length + 1) cap)).all (·.oneCell') = true) := qv_one ⟨_, _, _, rfl⟩ ⟨_, _, _, rfl⟩ ⟨_, _, _, rfl⟩
    go_wp2_with (first | (refine wpList_load_row rfl 28 _ rfl gq rfl _ _ _ _ VAR.out Try.underlying28 rfl infoQ ?_) | (refine wpList_store_mid rfl 28 _ _ rfl (gq + 1) 0 (qv { q with lk := x } (.slice A5 m5 c5') (.slice A6 q.gps.length c6') (.slice (some ⟨g, 0, none⟩) (r.length + 1) cap)) rfl rfl T4.out infoQ ON.out ?_))
    exact bodyPost_ret (v := .agg (qv { q with lk := x } (.slice A5 m5 c5') (.slice A6 q.gps.length c6') (.slice (some ⟨g, 0, none⟩) (r.length + 1) cap))) (results_cell_row rfl _ _ (gq + 1) _ _ _ _ rfl W4.out Try.underlying28 rfl infoQ) rfl (by first | exact ⟨{ q with lk := x }, _, _, _, rfl, ⟨((k0, .slice Ap k0.steps.length cp) :: r), O4.out.1⟩, O4.out.2⟩ | exact ⟨{ q with lk := x }, _, _, _, ((k0, .slice Ap k0.steps.length cp) :: r), rfl, O4.out.1, O4.out.2⟩)
  · have O3 : Hid (∀ (w3 : World), Lft w2 w3 b A n c → ∀ y : Int, ∀ o1, Qb w (w3.alloc o1) b A n c gq ⟨gq + 1, ob, cb⟩ q (.slice A5 m5 c5') (.slice A6 q.gps.length c6') (.slice (some ⟨g, 0, none⟩) (r.length + 1) cap) ((k0, .slice Ap k0.steps.length cp) :: r)) := fun w3 M y o1 => (Q2.out.draw hb M).alloc hb o1
    go_upto_region 30 with (go_at_call 12; refine (Draw.below_any b A n c 14 w2 Q2.out.o.lft.cur (by decide) (by decide)).mono ?_; rintro e w3 ⟨⟨x, xa, xb, rfl⟩, M⟩; have Q3 := Seg.hid (Q2.out.draw hb M); have O4 := Seg.hid (O3.out w3 M x (.cells #[.int .i64 x, .int .i64 0, .string ⟨#[]⟩] 55 (0, 0))); clear M; have hf := qfroz O4.out.var; obtain ⟨c0, c1, c2, c3, c4, c5, c6, c7, c8, c9, c10⟩ := qcells O4.out.var)
    have QN := Seg.hid (Q3.out.one CA.out hb ⟨x, 0, ⟨#[]⟩⟩ (by intro s hs; rw [List.mem_singleton.1 hs]; exact (show (⟨#[]⟩ : ByteArray).size ≤ 10 by decide)))
    have VAR := Seg.hid QN.out.var
    obtain ⟨t4, w4', o4⟩ := Qb.out CA.out QN.out
    dsimp only at t4 w4' o4
    have T4 := Seg.hid t4
    have W4 := Seg.hid w4'
    have O4 := Seg.hid o4
    clear t4 w4' o4
    have ON : Hid ((qv { q with wh := [⟨x, 0, ⟨#[]⟩⟩] } (.slice (some ⟨w3.heap.size, 0, none⟩) 1 1) (.slice A6 q.gps.length c6') (.slice (some ⟨g, 0, none⟩) (r.length + 1) cap)).all (·.oneCell') = true) := qv_one ⟨_, _, _, rfl⟩ ⟨_, _, _, rfl⟩ ⟨_, _, _, rfl⟩
    go_wp2_with (first | (refine wpList_load_row rfl 28 _ rfl gq rfl _ _ _ _ VAR.out Try.underlying28 rfl infoQ ?_) | (refine wpList_store_mid rfl 28 _ _ rfl (gq + 1) 0 (qv { q with wh := [⟨x, 0, ⟨#[]⟩⟩] } (.slice (some ⟨w3.heap.size, 0, none⟩) 1 1) (.slice A6 q.gps.length c6') (.slice (some ⟨g, 0, none⟩) (r.length + 1) cap)) rfl rfl T4.out infoQ ON.out ?_))
    exact bodyPost_ret (v := .agg (qv { q with wh := [⟨x, 0, ⟨#[]⟩⟩] } (.slice (some ⟨w3.heap.size, 0, none⟩) 1 1) (.slice A6 q.gps.length c6') (.slice (some ⟨g, 0, none⟩) (r.length + 1) cap))) (results_cell_row rfl _ _ (gq + 1) _ _ _ _ rfl W4.out Try.underlying28 rfl infoQ) rfl (by first | exact ⟨{ q with wh := [⟨x, 0, ⟨#[]⟩⟩] }, _, _, _, rfl, ⟨((k0, .slice Ap k0.steps.length cp) :: r), O4.out.1⟩, O4.out.2⟩ | exact ⟨{ q with wh := [⟨x, 0, ⟨#[]⟩⟩] }, _, _, _, ((k0, .slice Ap k0.steps.length cp) :: r), rfl, O4.out.1, O4.out.2⟩)
  · have E0 := (qcells Q2.out.var).2.2.2.2.2.2.1
    have D0 := Seg.hid (Q2.out.drew hb)
    have EA : Hid (∀ o1, (w2.drew.alloc o1).cell? ⟨gq, 6, none⟩ = some (.slice A6 q.gps.length c6')) := fun o1 => (qcells (D0.out.alloc hb o1).var).2.2.2.2.2.2.1
    go_upto_region 15 with fail
    refine OuK.start [8] (fun w' => w'.cell? ⟨gq, 6, none⟩ = some (.slice A6 q.gps.length c6')) (by kernel_rfl) E0 (fun hHeld => ?_)
    refine OuK.tke 0 (some 70) (.pointer (some ⟨gq, 6, none⟩)) rfl rfl ?_
    try simp only [Act.put, List.setIfInBounds_toArray, List.set_cons_zero, List.set_cons_succ]
    refine OuK.tke 1 (some 71) (.slice A6 q.gps.length c6') rfl rfl ?_
    try simp only [Act.put, List.setIfInBounds_toArray, List.set_cons_zero, List.set_cons_succ]
    refine OuK.tke 2 (some 72) (.pointer (some ⟨b, 0, none⟩)) rfl rfl ?_
    try simp only [Act.put, List.setIfInBounds_toArray, List.set_cons_zero, List.set_cons_succ]
    refine OuK.one 3 (by kernel_rfl) rfl (by decide) (fun K hK => ?_)
    go_simp
    refine hK.out _ _ (EA.out _) (fun hHeld => ?_)
    clear hK K
    try simp only [Act.put, List.setIfInBounds_toArray, List.set_cons_zero, List.set_cons_succ]
    refine OuK.one 4 (by kernel_rfl) rfl (by decide) (fun K hK => ?_)
    (go_simp; go_at_call 22; refine (pickS_new [(⟨#[117, 115, 101, 114]⟩ : ByteArray), (⟨#[116, 111, 119, 110]⟩ : ByteArray), (⟨#[57]⟩ : ByteArray), (⟨#[112]⟩ : ByteArray)] D0.out.o.lft.cur (by decide) (by decide) (by decide) _ rfl).mono ?_; rintro e w3 ⟨⟨x, hx, rfl⟩, M⟩; have Q3 := Seg.hid (D0.out.draw hb M); clear M; have Q4 := Seg.hid (Q3.out.alloc hb (.cells #[.string x] 9 (0, 0))); have EC := (qcells Q3.out.var).2.2.2.2.2.2.1; have ED := (qcells Q4.out.var).2.2.2.2.2.2.1; try (go_wp2_with fail))
    refine hK.out _ _ EC (fun hHeld => ?_)
    clear hK K
    try simp only [Act.put, List.setIfInBounds_toArray, List.set_cons_zero, List.set_cons_succ]
    refine OuK.one 5 (by kernel_rfl) rfl (by decide) (fun K hK => ?_)
    go_simp
    refine hK.out _ _ ED (fun hHeld => ?_)
    clear hK K
    try simp only [Act.put, List.setIfInBounds_toArray, List.set_cons_zero, List.set_cons_succ]
    refine OuK.one 6 (by kernel_rfl) rfl (by decide) (fun K hK => ?_)
    have hl4 : w.heap.size ≤ w3.heap.size := Q3.out.o.lft.grown.size
    have l5 : q.gps.length ≤ 5 := L5.out.1
    have OW : Hid ((w3.alloc (.cells #[.string x] 9 (0, 0))).ownsRow w.heap.size 9 1 (.slice A6 q.gps.length c6') q.gps.length (q.gps.map Value.string)) := Q4.out.o.gps
    refine step_append_lies _ (by rfl) _ _ 25 (by rfl) w.heap.size 9 i0 _ 1 16 Try.underlying25 hi hz0 hz1 hz2 rfl (by decide) (.slice A6 q.gps.length c6') q.gps.length (q.gps.map Value.string) (by rfl) OW.out ⟨w3.heap.size, 0, none⟩ 1 1 [.string x] (by rfl) (by rfl) (World.news_of_block (cs := #[.string x]) (heap_alloc_new w3 _)) (by simp [Value.oneCell']) (by decide) (by unfold maxLen; omega) (by omega) (by rw [hsz]; omega) (w3.heap.size + 1) (hsz w3 _) ?_
    intro g9 cap9 w9 hown9 gr9 hat9 hlt9
    have P9 := Seg.hid (Q4.out.pushG (ms := [x]) CA.out hown9 gr9 (by show q.gps.length + 1 ≤ 20; omega) (fun s hs => by rw [List.mem_singleton.1 hs]; exact le20 hx))
    clear hown9 gr9 hat9 hlt9
    have hf := qfroz P9.out.1
    have EF := (qcells P9.out.1).2.2.2.2.2.2.1
    refine hK.out _ _ EF (fun hHeld => ?_)
    clear hK K
    try simp only [Act.put, List.setIfInBounds_toArray]
    refine OuK.tke 7 (some 77) (.pointer (some ⟨gq, 6, none⟩)) rfl rfl ?_
    try simp only [Act.put]
    refine OuK.oneX 8 (by kernel_rfl) rfl (by decide) (fun K hK => ?_)
    go_simp
    refine hK.out _ _ ?_
    clear hK K
    try simp only [Act.put, List.setIfInBounds_toArray]
    refine OuK.done (by kernel_rfl) ?_
    try (go_upto_region 30 with fail)
    have QN := Seg.hid (P9.out.2)
    have VAR := Seg.hid QN.out.var
    obtain ⟨t4, w4', o4⟩ := Qb.out CA.out QN.out
    dsimp only at t4 w4' o4
    have T4 := Seg.hid t4
    have W4 := Seg.hid w4'
    have O4 := Seg.hid o4
    clear t4 w4' o4
    have ON : Hid ((qv { q with gps := q.gps ++ [x] } (.slice A5 m5 c5') (.slice (some ⟨g9, 0, none⟩) (q.gps.length + 1) cap9) (.slice (some ⟨g, 0, none⟩) (r.length + 1) cap)).all (·.oneCell') = true) := qv_one ⟨_, _, _, rfl⟩ ⟨_, _, _, rfl⟩ ⟨_, _, _, rfl⟩
    go_wp2_with (first | (refine wpList_load_row rfl 28 _ rfl gq rfl _ _ _ _ VAR.out Try.underlying28 rfl infoQ ?_) | (refine wpList_store_mid rfl 28 _ _ rfl (gq + 1) 0 (qv { q with gps := q.gps ++ [x] } (.slice A5 m5 c5') (.slice (some ⟨g9, 0, none⟩) (q.gps.length + 1) cap9) (.slice (some ⟨g, 0, none⟩) (r.length + 1) cap)) rfl rfl T4.out infoQ ON.out ?_))
    exact bodyPost_ret (v := .agg (qv { q with gps := q.gps ++ [x] } (.slice A5 m5 c5') (.slice (some ⟨g9, 0, none⟩) (q.gps.length + 1) cap9) (.slice (some ⟨g, 0, none⟩) (r.length + 1) cap))) (results_cell_row rfl _ _ (gq + 1) _ _ _ _ rfl W4.out Try.underlying28 rfl infoQ) rfl (by first | exact ⟨{ q with gps := q.gps ++ [x] }, _, _, _, rfl, ⟨((k0, .slice Ap k0.steps.length cp) :: r), O4.out.1⟩, O4.out.2⟩ | exact ⟨{ q with gps := q.gps ++ [x] }, _, _, _, ((k0, .slice Ap k0.steps.length cp) :: r), rfl, O4.out.1, O4.out.2⟩)
  · obtain ⟨_, _, _, _, _, _, _, _, e8, _, _⟩ := qcells Q2.out.var
    go_upto_region 30 with (go_at_call 12; refine (Draw.below_any b A n c 5 w2 Q2.out.o.lft.cur (by decide) (by decide)).mono ?_; rintro e w3 ⟨⟨x, xa, xb, rfl⟩, M⟩; have Q3 := Seg.hid (Q2.out.draw hb M); clear M; clear e8; have hf := qfroz Q3.out.var; obtain ⟨c0, c1, c2, c3, c4, c5, c6, c7, c8, c9, c10⟩ := qcells Q3.out.var)
    have QN := Seg.hid (Q3.out.set CA.out 7 (.int .i64 x) { q with win := x } rfl rfl rfl rfl Q3.out.o.sz.names)
    have VAR := Seg.hid QN.out.var
    obtain ⟨t4, w4', o4⟩ := Qb.out CA.out QN.out
    dsimp only at t4 w4' o4
    have T4 := Seg.hid t4
    have W4 := Seg.hid w4'
    have O4 := Seg.hid o4
    clear t4 w4' o4
    have ON : Hid ((qv { q with win := x } (.slice A5 m5 c5') (.slice A6 q.gps.length c6') (.slice (some ⟨g, 0, none⟩) (r.length + 1) cap)).all (·.oneCell') = true) := qv_one ⟨_, _, _, rfl⟩ ⟨_, _, _, rfl⟩ ⟨_, _, _, rfl⟩
    go_wp2_with (first | (refine wpList_load_row rfl 28 _ rfl gq rfl _ _ _ _ VAR.out Try.underlying28 rfl infoQ ?_) | (refine wpList_store_mid rfl 28 _ _ rfl (gq + 1) 0 (qv { q with win := x } (.slice A5 m5 c5') (.slice A6 q.gps.length c6') (.slice (some ⟨g, 0, none⟩) (r.length + 1) cap)) rfl rfl T4.out infoQ ON.out ?_))
    exact bodyPost_ret (v := .agg (qv { q with win := x } (.slice A5 m5 c5') (.slice A6 q.gps.length c6') (.slice (some ⟨g, 0, none⟩) (r.length + 1) cap))) (results_cell_row rfl _ _ (gq + 1) _ _ _ _ rfl W4.out Try.underlying28 rfl infoQ) rfl (by first | exact ⟨{ q with win := x }, _, _, _, rfl, ⟨((k0, .slice Ap k0.steps.length cp) :: r), O4.out.1⟩, O4.out.2⟩ | exact ⟨{ q with win := x }, _, _, _, ((k0, .slice Ap k0.steps.length cp) :: r), rfl, O4.out.1, O4.out.2⟩)
  · obtain ⟨_, _, _, _, _, _, _, _, e8, _, _⟩ := qcells Q2.out.var
    go_upto_region 30 with (go_at_call 13; refine (pickI_new [0, 1, 100, 1000000000000, 1000000000001] Q2.out.o.lft.cur (by simp) (by simp) _ rfl).mono ?_; rintro e w3 ⟨⟨x, rfl⟩, M⟩; have Q3 := Seg.hid (Q2.out.draw hb M); clear M; clear e8; have hf := qfroz Q3.out.var; obtain ⟨c0, c1, c2, c3, c4, c5, c6, c7, c8, c9, c10⟩ := qcells Q3.out.var)
    have QN := Seg.hid (Q3.out.set CA.out 8 (.int .i64 x) { q with size := x } rfl rfl rfl rfl Q3.out.o.sz.names)
    have VAR := Seg.hid QN.out.var
    obtain ⟨t4, w4', o4⟩ := Qb.out CA.out QN.out
    dsimp only at t4 w4' o4
    have T4 := Seg.hid t4
    have W4 := Seg.hid w4'
    have O4 := Seg.hid o4
    clear t4 w4' o4
    have ON : Hid ((qv { q with size := x } (.slice A5 m5 c5') (.slice A6 q.gps.length c6') (.slice (some ⟨g, 0, none⟩) (r.length + 1) cap)).all (·.oneCell') = true) := qv_one ⟨_, _, _, rfl⟩ ⟨_, _, _, rfl⟩ ⟨_, _, _, rfl⟩
    go_wp2_with (first | (refine wpList_load_row rfl 28 _ rfl gq rfl _ _ _ _ VAR.out Try.underlying28 rfl infoQ ?_) | (refine wpList_store_mid rfl 28 _ _ rfl (gq + 1) 0 (qv { q with size := x } (.slice A5 m5 c5') (.slice A6 q.gps.length c6') (.slice (some ⟨g, 0, none⟩) (r.length + 1) cap)) rfl rfl T4.out infoQ ON.out ?_))
    exact bodyPost_ret (v := .agg (qv { q with size := x } (.slice A5 m5 c5') (.slice A6 q.gps.length c6') (.slice (some ⟨g, 0, none⟩) (r.length + 1) cap))) (results_cell_row rfl _ _ (gq + 1) _ _ _ _ rfl W4.out Try.underlying28 rfl infoQ) rfl (by first | exact ⟨{ q with size := x }, _, _, _, rfl, ⟨((k0, .slice Ap k0.steps.length cp) :: r), O4.out.1⟩, O4.out.2⟩ | exact ⟨{ q with size := x }, _, _, _, ((k0, .slice Ap k0.steps.length cp) :: r), rfl, O4.out.1, O4.out.2⟩)
  · obtain ⟨_, _, _, _, _, _, _, _, e8, _, _⟩ := qcells Q2.out.var
    go_upto_region 30 with (go_at_call 13; refine (pickI_new [0, 1, q.size, wrap64 (q.size + 1)] Q2.out.o.lft.cur (by simp) (by simp) _ rfl).mono ?_; rintro e w3 ⟨⟨x, rfl⟩, M⟩; have Q3 := Seg.hid (Q2.out.draw hb M); clear M; clear e8; have hf := qfroz Q3.out.var; obtain ⟨c0, c1, c2, c3, c4, c5, c6, c7, c8, c9, c10⟩ := qcells Q3.out.var)
    have QN := Seg.hid (Q3.out.set CA.out 9 (.int .i64 x) { q with every := x } rfl rfl rfl rfl Q3.out.o.sz.names)
    have VAR := Seg.hid QN.out.var
    obtain ⟨t4, w4', o4⟩ := Qb.out CA.out QN.out
    dsimp only at t4 w4' o4
    have T4 := Seg.hid t4
    have W4 := Seg.hid w4'
    have O4 := Seg.hid o4
    clear t4 w4' o4
    have ON : Hid ((qv { q with every := x } (.slice A5 m5 c5') (.slice A6 q.gps.length c6') (.slice (some ⟨g, 0, none⟩) (r.length + 1) cap)).all (·.oneCell') = true) := qv_one ⟨_, _, _, rfl⟩ ⟨_, _, _, rfl⟩ ⟨_, _, _, rfl⟩
    go_wp2_with (first | (refine wpList_load_row rfl 28 _ rfl gq rfl _ _ _ _ VAR.out Try.underlying28 rfl infoQ ?_) | (refine wpList_store_mid rfl 28 _ _ rfl (gq + 1) 0 (qv { q with every := x } (.slice A5 m5 c5') (.slice A6 q.gps.length c6') (.slice (some ⟨g, 0, none⟩) (r.length + 1) cap)) rfl rfl T4.out infoQ ON.out ?_))
    exact bodyPost_ret (v := .agg (qv { q with every := x } (.slice A5 m5 c5') (.slice A6 q.gps.length c6') (.slice (some ⟨g, 0, none⟩) (r.length + 1) cap))) (results_cell_row rfl _ _ (gq + 1) _ _ _ _ rfl W4.out Try.underlying28 rfl infoQ) rfl (by first | exact ⟨{ q with every := x }, _, _, _, rfl, ⟨((k0, .slice Ap k0.steps.length cp) :: r), O4.out.1⟩, O4.out.2⟩ | exact ⟨{ q with every := x }, _, _, _, ((k0, .slice Ap k0.steps.length cp) :: r), rfl, O4.out.1, O4.out.2⟩)
  · have hf := qfroz Q2.out.var
    obtain ⟨c0, c1, c2, c3, c4, c5, c6, c7, c8, c9, c10⟩ := qcells Q2.out.var
    go_upto_region 30 with fail
    have QN := Seg.hid (Q2.out.bare CA.out)
    have VAR := Seg.hid QN.out.var
    obtain ⟨t4, w4', o4⟩ := Qb.out CA.out QN.out
    dsimp only at t4 w4' o4
    have T4 := Seg.hid t4
    have W4 := Seg.hid w4'
    have O4 := Seg.hid o4
    clear t4 w4' o4
    have ON : Hid ((qv { q with gets := [] } (.slice A5 m5 c5') (.slice A6 q.gps.length c6') (.slice none 0 0)).all (·.oneCell') = true) := qv_one ⟨_, _, _, rfl⟩ ⟨_, _, _, rfl⟩ ⟨_, _, _, rfl⟩
    go_wp2_with (first | (refine wpList_load_row rfl 28 _ rfl gq rfl _ _ _ _ VAR.out Try.underlying28 rfl infoQ ?_) | (refine wpList_store_mid rfl 28 _ _ rfl (gq + 1) 0 (qv { q with gets := [] } (.slice A5 m5 c5') (.slice A6 q.gps.length c6') (.slice none 0 0)) rfl rfl T4.out infoQ ON.out ?_))
    exact bodyPost_ret (v := .agg (qv { q with gets := [] } (.slice A5 m5 c5') (.slice A6 q.gps.length c6') (.slice none 0 0))) (results_cell_row rfl _ _ (gq + 1) _ _ _ _ rfl W4.out Try.underlying28 rfl infoQ) rfl (by first | exact ⟨{ q with gets := [] }, _, _, _, rfl, ⟨[], O4.out.1⟩, O4.out.2⟩ | exact ⟨{ q with gets := [] }, _, _, _, [], rfl, O4.out.1, O4.out.2⟩)
  · have E0 := (qcells Q2.out.var).2.2.2.2.2.2.2.2.2.2
    have D0 := Seg.hid (Q2.out.drew hb)
    have EA : Hid (∀ o1, (w2.drew.alloc o1).cell? ⟨gq, 10, none⟩ = some (.slice (some ⟨g, 0, none⟩) (r.length + 1) cap)) := fun o1 => (qcells (D0.out.alloc hb o1).var).2.2.2.2.2.2.2.2.2.2
    go_upto_region 25 with fail
    refine OuK.start [7] (fun w' => w'.cell? ⟨gq, 10, none⟩ = some (.slice (some ⟨g, 0, none⟩) (r.length + 1) cap)) (by kernel_rfl) E0 (fun hHeld => ?_)
    refine OuK.tke 0 (some 105) (.pointer (some ⟨gq, 10, none⟩)) rfl rfl ?_
    try simp only [Act.put, List.setIfInBounds_toArray, List.set_cons_zero, List.set_cons_succ]
    refine OuK.tke 1 (some 106) (.slice (some ⟨g, 0, none⟩) (r.length + 1) cap) rfl rfl ?_
    try simp only [Act.put, List.setIfInBounds_toArray, List.set_cons_zero, List.set_cons_succ]
    refine OuK.tke 2 (some 107) (.pointer (some ⟨b, 0, none⟩)) rfl rfl ?_
    try simp only [Act.put, List.setIfInBounds_toArray, List.set_cons_zero, List.set_cons_succ]
    refine OuK.one 3 (by kernel_rfl) rfl (by decide) (fun K hK => ?_)
    go_simp
    refine hK.out _ _ (EA.out _) (fun hHeld => ?_)
    clear hK K
    try simp only [Act.put, List.setIfInBounds_toArray, List.set_cons_zero, List.set_cons_succ]
    refine OuK.one 4 (by kernel_rfl) rfl (by decide) (fun K hK => ?_)
    (go_simp; go_at_call 22; refine (pickS_new [(⟨#[]⟩ : ByteArray), (⟨#[117, 115, 101, 114]⟩ : ByteArray), (⟨#[115, 116, 97, 114, 116]⟩ : ByteArray), (⟨#[97, 115]⟩ : ByteArray), (⟨#[112]⟩ : ByteArray)] D0.out.o.lft.cur (by decide) (by decide) (by decide) _ rfl).mono ?_; rintro e w3 ⟨⟨x, hx, rfl⟩, M⟩; have Q3 := Seg.hid (D0.out.draw hb M); clear M; obtain ⟨g9, cap9, cur9, e9, hg9, hgg, d0, d1, d2⟩ := get0 Q3.out.o.gets; simp only [Value.slice.injEq, Option.some.injEq, Addr.mk.injEq, and_true, true_and] at e9; obtain ⟨rfl, rfl⟩ := e9; have hf := qfroz hgg; have EC := (qcells Q3.out.var).2.2.2.2.2.2.2.2.2.2; try (go_wp2_with fail))
    refine hK.out _ _ EC (fun hHeld => ?_)
    clear hK K
    try simp only [Act.put, List.setIfInBounds_toArray, List.set_cons_zero, List.set_cons_succ]
    refine OuK.tke 5 (some 110) (.pointer (some ⟨g, 0, none⟩)) rfl rfl ?_
    try simp only [Act.put, List.setIfInBounds_toArray, List.set_cons_zero, List.set_cons_succ]
    refine OuK.tke 6 (some 111) (.pointer (some ⟨g, 2, none⟩)) rfl rfl ?_
    try simp only [Act.put, List.setIfInBounds_toArray, List.set_cons_zero, List.set_cons_succ]
    refine OuK.oneX 7 (by kernel_rfl) rfl (by decide) (fun K hK => ?_)
    go_simp
    refine hK.out _ _ ?_
    clear hK K
    try simp only [Act.put, List.setIfInBounds_toArray]
    refine OuK.done (by kernel_rfl) ?_
    try (go_upto_region 30 with fail)
    have QN := Seg.hid (Q3.out.setGet (p1 := ({ k0 with nm := x }, .slice Ap k0.steps.length cp)) (j := 2) CA.out rfl (by decide) (Q3.out.o.el (k0, .slice Ap k0.steps.length cp) (List.mem_cons_self ..)) ⟨le20 hx, (Q3.out.o.sz.gets.2 (k0, .slice Ap k0.steps.length cp) (List.mem_cons_self ..)).2⟩)
    have VAR := Seg.hid QN.out.var
    obtain ⟨t4, w4', o4⟩ := Qb.out CA.out QN.out
    dsimp only at t4 w4' o4
    have T4 := Seg.hid t4
    have W4 := Seg.hid w4'
    have O4 := Seg.hid o4
    clear t4 w4' o4
    have ON : Hid ((qv { q with gets := { k0 with nm := x } :: r.map Prod.fst } (.slice A5 m5 c5') (.slice A6 q.gps.length c6') (.slice (some ⟨g, 0, none⟩) (r.length + 1) cap)).all (·.oneCell') = true) := qv_one ⟨_, _, _, rfl⟩ ⟨_, _, _, rfl⟩ ⟨_, _, _, rfl⟩
    go_wp2_with (first | (refine wpList_load_row rfl 28 _ rfl gq rfl _ _ _ _ VAR.out Try.underlying28 rfl infoQ ?_) | (refine wpList_store_mid rfl 28 _ _ rfl (gq + 1) 0 (qv { q with gets := { k0 with nm := x } :: r.map Prod.fst } (.slice A5 m5 c5') (.slice A6 q.gps.length c6') (.slice (some ⟨g, 0, none⟩) (r.length + 1) cap)) rfl rfl T4.out infoQ ON.out ?_))
    exact bodyPost_ret (v := .agg (qv { q with gets := { k0 with nm := x } :: r.map Prod.fst } (.slice A5 m5 c5') (.slice A6 q.gps.length c6') (.slice (some ⟨g, 0, none⟩) (r.length + 1) cap))) (results_cell_row rfl _ _ (gq + 1) _ _ _ _ rfl W4.out Try.underlying28 rfl infoQ) rfl (by first | exact ⟨{ q with gets := { k0 with nm := x } :: r.map Prod.fst }, _, _, _, rfl, ⟨(({ k0 with nm := x }, .slice Ap k0.steps.length cp) :: r), O4.out.1⟩, O4.out.2⟩ | exact ⟨{ q with gets := { k0 with nm := x } :: r.map Prod.fst }, _, _, _, (({ k0 with nm := x }, .slice Ap k0.steps.length cp) :: r), rfl, O4.out.1, O4.out.2⟩)
  · have E0 := (qcells Q2.out.var).2.2.2.2.2.2.2.2.2.2
    have D0 := Seg.hid (Q2.out.drew hb)
    go_upto_region 27 with fail
    refine OuK.start [6] (fun w' => w'.cell? ⟨gq, 10, none⟩ = some (.slice (some ⟨g, 0, none⟩) (r.length + 1) cap)) (by kernel_rfl) E0 (fun hHeld => ?_)
    refine OuK.tke 0 (some 114) (.pointer (some ⟨gq, 10, none⟩)) rfl rfl ?_
    try simp only [Act.put, List.setIfInBounds_toArray, List.set_cons_zero, List.set_cons_succ]
    refine OuK.tke 1 (some 115) (.slice (some ⟨g, 0, none⟩) (r.length + 1) cap) rfl rfl ?_
    try simp only [Act.put, List.setIfInBounds_toArray, List.set_cons_zero, List.set_cons_succ]
    refine OuK.tke 2 (some 116) (.pointer (some ⟨b, 0, none⟩)) rfl rfl ?_
    try simp only [Act.put, List.setIfInBounds_toArray, List.set_cons_zero, List.set_cons_succ]
    refine OuK.one 3 (by kernel_rfl) rfl (by decide) (fun K hK => ?_)
    (go_simp; go_at_call 12; refine (Draw.below_any b A n c 6 w2.drew D0.out.o.lft.cur (by decide) (by decide)).mono ?_; rintro e w3 ⟨⟨x, xa, xb, rfl⟩, M⟩; have Q3 := Seg.hid (D0.out.draw hb M); clear M; obtain ⟨g9, cap9, cur9, e9, hg9, hgg, d0, d1, d2⟩ := get0 Q3.out.o.gets; simp only [Value.slice.injEq, Option.some.injEq, Addr.mk.injEq, and_true, true_and] at e9; obtain ⟨rfl, rfl⟩ := e9; have hf := qfroz hgg; have EC := (qcells Q3.out.var).2.2.2.2.2.2.2.2.2.2; try (go_wp2_with fail))
    refine hK.out _ _ EC (fun hHeld => ?_)
    clear hK K
    try simp only [Act.put, List.setIfInBounds_toArray, List.set_cons_zero, List.set_cons_succ]
    refine OuK.tke 4 (some 118) (.pointer (some ⟨g, 0, none⟩)) rfl rfl ?_
    try simp only [Act.put, List.setIfInBounds_toArray, List.set_cons_zero, List.set_cons_succ]
    refine OuK.tke 5 (some 119) (.pointer (some ⟨g, 0, none⟩)) rfl rfl ?_
    try simp only [Act.put, List.setIfInBounds_toArray, List.set_cons_zero, List.set_cons_succ]
    refine OuK.oneX 6 (by kernel_rfl) rfl (by decide) (fun K hK => ?_)
    go_simp
    refine hK.out _ _ ?_
    clear hK K
    try simp only [Act.put, List.setIfInBounds_toArray]
    refine OuK.done (by kernel_rfl) ?_
    try (go_upto_region 30 with fail)
    have QN := Seg.hid (Q3.out.setGet (p1 := ({ k0 with kind := x }, .slice Ap k0.steps.length cp)) (j := 0) CA.out rfl (by decide) (Q3.out.o.el (k0, .slice Ap k0.steps.length cp) (List.mem_cons_self ..)) (Q3.out.o.sz.gets.2 (k0, .slice Ap k0.steps.length cp) (List.mem_cons_self ..)))
    have VAR := Seg.hid QN.out.var
    obtain ⟨t4, w4', o4⟩ := Qb.out CA.out QN.out
    dsimp only at t4 w4' o4
    have T4 := Seg.hid t4
    have W4 := Seg.hid w4'
    have O4 := Seg.hid o4
    clear t4 w4' o4
    have ON : Hid ((qv { q with gets := { k0 with kind := x } :: r.map Prod.fst } (.slice A5 m5 c5') (.slice A6 q.gps.length c6') (.slice (some ⟨g, 0, none⟩) (r.length + 1) cap)).all (·.oneCell') = true) := qv_one ⟨_, _, _, rfl⟩ ⟨_, _, _, rfl⟩ ⟨_, _, _, rfl⟩
    go_wp2_with (first | (refine wpList_load_row rfl 28 _ rfl gq rfl _ _ _ _ VAR.out Try.underlying28 rfl infoQ ?_) | (refine wpList_store_mid rfl 28 _ _ rfl (gq + 1) 0 (qv { q with gets := { k0 with kind := x } :: r.map Prod.fst } (.slice A5 m5 c5') (.slice A6 q.gps.length c6') (.slice (some ⟨g, 0, none⟩) (r.length + 1) cap)) rfl rfl T4.out infoQ ON.out ?_))
    exact bodyPost_ret (v := .agg (qv { q with gets := { k0 with kind := x } :: r.map Prod.fst } (.slice A5 m5 c5') (.slice A6 q.gps.length c6') (.slice (some ⟨g, 0, none⟩) (r.length + 1) cap))) (results_cell_row rfl _ _ (gq + 1) _ _ _ _ rfl W4.out Try.underlying28 rfl infoQ) rfl (by first | exact ⟨{ q with gets := { k0 with kind := x } :: r.map Prod.fst }, _, _, _, rfl, ⟨(({ k0 with kind := x }, .slice Ap k0.steps.length cp) :: r), O4.out.1⟩, O4.out.2⟩ | exact ⟨{ q with gets := { k0 with kind := x } :: r.map Prod.fst }, _, _, _, (({ k0 with kind := x }, .slice Ap k0.steps.length cp) :: r), rfl, O4.out.1, O4.out.2⟩)
  · have SMK : Hid (Sm k0.steps) := (Q2.out.o.sz.gets.2 (k0, .slice Ap k0.steps.length cp) (List.mem_cons_self ..)).2.2
    have D0 := Seg.hid (Q2.out.drew hb)
    go_upto_region 29 with fail
    refine OuK.start [17] (fun w' => w'.cell? ⟨gq, 10, none⟩ = some (.slice (some ⟨g, 0, none⟩) (r.length + 1) cap) ∧ w'.cell? ⟨g, 1, none⟩ = some (.slice Ap k0.steps.length cp)) (by kernel_rfl) (Qb.sx D0.out) (fun hHeld => ?_)
    obtain ⟨wA, hwA⟩ : ∃ x, w2.drew = x := ⟨_, rfl⟩
    rw [hwA] at D0 hHeld ⊢
    clear hwA
    refine OuK.tke 0 (some 122) (.pointer (some ⟨gq, 10, none⟩)) rfl rfl ?_
    try simp only [Act.put, List.setIfInBounds_toArray, List.set_cons_zero, List.set_cons_succ]
    refine OuK.tke 1 (some 123) (.slice (some ⟨g, 0, none⟩) (r.length + 1) cap) rfl rfl ?_
    try simp only [Act.put, List.setIfInBounds_toArray, List.set_cons_zero, List.set_cons_succ]
    refine OuK.tke 3 (some 125) (.pointer (some ⟨gq, 10, none⟩)) rfl rfl ?_
    try simp only [Act.put, List.setIfInBounds_toArray, List.set_cons_zero, List.set_cons_succ]
    refine OuK.tke 4 (some 126) (.slice (some ⟨g, 0, none⟩) (r.length + 1) cap) rfl rfl ?_
    try simp only [Act.put, List.setIfInBounds_toArray, List.set_cons_zero, List.set_cons_succ]
    refine OuK.tke 5 (some 127) (.pointer (some ⟨g, 0, none⟩)) rfl rfl ?_
    try simp only [Act.put, List.setIfInBounds_toArray, List.set_cons_zero, List.set_cons_succ]
    refine OuK.tke 6 (some 128) (.pointer (some ⟨g, 1, none⟩)) rfl rfl ?_
    try simp only [Act.put, List.setIfInBounds_toArray, List.set_cons_zero, List.set_cons_succ]
    refine OuK.tke 7 (some 129) (.slice Ap k0.steps.length cp) rfl rfl ?_
    try simp only [Act.put, List.setIfInBounds_toArray, List.set_cons_zero, List.set_cons_succ]
    refine OuK.tke 8 (some 130) (.pointer (some ⟨b, 0, none⟩)) rfl rfl ?_
    try simp only [Act.put, List.setIfInBounds_toArray, List.set_cons_zero, List.set_cons_succ]
    refine OuK.two 2 9 (by kernel_rfl) rfl rfl (by decide) (by decide) (fun K hK => ?_) (fun K hK => ?_)
    · go_simp
      have Q2 := Seg.hid (D0.out.alloc hb (.cells #[] 55 (0, 0)))
      refine hK.out _ _ (Qb.sx Q2.out) (fun hHeld => ?_)
      clear hK K
      try simp only [Act.put, List.setIfInBounds_toArray, List.set_cons_zero, List.set_cons_succ]
      obtain ⟨w4_1, hY⟩ : ∃ z, wA.alloc (.cells #[] 55 (0, 0)) = z := ⟨_, rfl⟩
      have H6 := Seg.hid (Blk.new D0.out.o.lft.grown.size #[] 55)
      have F7 := Seg.hid (Qb.far D0.out)
      rw [hY] at Q2 hHeld H6 ⊢
      clear hY D0
      generalize wA.heap.size = ge4 at *
      refine OuK.one 9 (by kernel_rfl) rfl (by decide) (fun K hK => ?_)
      go_simp
      have Q9 := Seg.hid (Q2.out.alloc hb (.cells #[.string ⟨#[117, 115, 101, 114]⟩, .string ⟨#[110, 111]⟩, .string ⟨#[115, 117, 109]⟩] 9 (0, 0)))
      refine hK.out _ _ (Qb.sx Q9.out) (fun hHeld => ?_)
      clear hK K
      try simp only [Act.put, List.setIfInBounds_toArray, List.set_cons_zero, List.set_cons_succ]
      obtain ⟨w4_8, hY⟩ : ∃ z, w4_1.alloc (.cells #[.string ⟨#[117, 115, 101, 114]⟩, .string ⟨#[110, 111]⟩, .string ⟨#[115, 117, 109]⟩] 9 (0, 0)) = z := ⟨_, rfl⟩
      have H13 := Seg.hid (Blk.new Q2.out.o.lft.grown.size #[.string ⟨#[117, 115, 101, 114]⟩, .string ⟨#[110, 111]⟩, .string ⟨#[115, 117, 109]⟩] 9)
      have H14 := Seg.hid (H6.out.alloc (.cells #[.string ⟨#[117, 115, 101, 114]⟩, .string ⟨#[110, 111]⟩, .string ⟨#[115, 117, 109]⟩] 9 (0, 0)))
      rw [hY] at Q9 hHeld H13 H14 ⊢
      clear hY Q2 H6
      generalize w4_1.heap.size = gl10 at *
      refine OuK.one 10 (by kernel_rfl) rfl (by decide) (fun K hK => ?_)
      (go_simp; go_at_call 22; refine (pickS_at [(⟨#[117, 115, 101, 114]⟩ : ByteArray), (⟨#[110, 111]⟩ : ByteArray), (⟨#[115, 117, 109]⟩ : ByteArray)] hb Q9.out.o.lft.cur H13.out (by decide) (by decide) (by decide) rfl).mono ?_; rintro e w4_15 ⟨⟨x, hx, rfl⟩, M⟩; have Q16 := Seg.hid (Q9.out.draw hb M); have H17 := Seg.hid (H14.out.draw hb M); clear M Q9 H13 H14; try (go_wp2_with fail))
      refine hK.out _ _ (Qb.sx Q16.out) (fun hHeld => ?_)
      clear hK K
      try simp only [Act.put, List.setIfInBounds_toArray, List.set_cons_zero, List.set_cons_succ]
      refine OuK.tke 11 (some 133) (.agg #[.int .i64 2, .int .i64 0, .string x]) rfl rfl ?_
      try simp only [Act.put, List.setIfInBounds_toArray, List.set_cons_zero, List.set_cons_succ]
      refine OuK.one 12 (by kernel_rfl) rfl (by decide) (fun K hK => ?_)
      go_simp
      have Q19 := Seg.hid (Q16.out.alloc hb (.cells #[.int .i64 2, .int .i64 0, .string x] 55 (0, 0)))
      refine hK.out _ _ (Qb.sx Q19.out) (fun hHeld => ?_)
      clear hK K
      try simp only [Act.put, List.setIfInBounds_toArray, List.set_cons_zero, List.set_cons_succ]
      obtain ⟨w4_18, hY⟩ : ∃ z, w4_15.alloc (.cells #[.int .i64 2, .int .i64 0, .string x] 55 (0, 0)) = z := ⟨_, rfl⟩
      have H23 := Seg.hid (Blk.new Q16.out.o.lft.grown.size #[.int .i64 2, .int .i64 0, .string x] 55)
      have H24 := Seg.hid (H17.out.alloc (.cells #[.int .i64 2, .int .i64 0, .string x] 55 (0, 0)))
      rw [hY] at Q19 hHeld H23 H24 ⊢
      clear hY Q16 H17
      generalize w4_15.heap.size = gn22 at *
      refine OuK.one 13 (by kernel_rfl) rfl (by decide) (fun K hK => ?_)
      have l10 : k0.steps.length ≤ 10 := L5.out.2.2
      refine step_append_lies _ (by rfl) _ _ 24 (by rfl) w.heap.size 55 iS _ 3 32 Try.underlying24 hiS hsz0 hsz1 hsz2 rfl (by decide) (.slice Ap k0.steps.length cp) k0.steps.length (scells k0.steps) (by rfl) (Q19.out.o.el (k0, .slice Ap k0.steps.length cp) (List.mem_cons_self ..)) ⟨gn22, 0, none⟩ 1 1 [.int .i64 2, .int .i64 0, .string x] (by rfl) (by rfl) (World.news_of_block (cs := #[.int .i64 2, .int .i64 0, .string x]) H23.out.2) (by simp [Value.oneCell']) (by decide) (by unfold maxLen; omega) (by omega) Q19.out.o.lft.grown.size w4_18.heap.size rfl ?_
      intro g9 cap9 w4_25 hown9 gr9 hat9 hlt9
      have Q26 := Seg.hid (Qb.push0 CA.out Q19.out (fun y hy => DIS.out y hy) gr9)
      have R27 : Hid (SRow w4_25 w.heap.size (.slice (some ⟨g9, 0, none⟩) (k0.steps.length + 1) cap9) (k0.steps ++ [⟨2, 0, x⟩])) := SRow.add (m := [⟨2, 0, x⟩]) hown9
      have H28 := Seg.hid (H24.out.grown gr9 (F7.out.2 (k0, .slice Ap k0.steps.length cp) (List.mem_cons_self ..)))
      clear hown9 gr9 hat9 hlt9 Q19 H23 H24
      refine hK.out _ _ (Qm.sx Q26.out) (fun hHeld => ?_)
      clear hK K
      try simp only [Act.put, List.setIfInBounds_toArray]
      refine OuK.one 14 (by kernel_rfl) rfl (by decide) (fun K hK => ?_)
      have l10 : k0.steps.length ≤ 10 := L5.out.2.2
      have NW := news_of (us := k0.steps ++ [⟨2, 0, x⟩]) (A := some ⟨g9, 0, none⟩) (c := cap9) (by have h := SRow.lat (base := w.heap.size) (by rw [List.length_append]; simp only [List.length_cons, List.length_nil]; omega) R27.out; rw [List.length_append]; exact h)
      rw [List.length_append] at NW
      refine AppW.step_append_all _ (by rfl) _ _ 24 (by rfl) w.heap.size 55 iS _ 3 32 Try.underlying24 hiS hsz0 hsz1 hsz2 rfl (by decide) (.slice (some ⟨ge4, 0, none⟩) 0 0) 0 [] (by rfl) (empty_at H28.out) (some ⟨g9, 0, none⟩) (k0.steps.length + 1) cap9 (scells (k0.steps ++ [⟨2, 0, x⟩])) (by rfl) (by rw [scells_len, List.length_append]; rfl) NW (scells_one _) (by unfold maxLen; omega) (by omega) Q26.out.lft.grown.size ?_
      intro v14 wZ hown14 gr14 hv14
      have QZ := Seg.hid (Qm.grown CA.out Q26.out gr14 (fun y hy => by cases hy; exact ⟨H28.out.1, ⟨_, H28.out.2⟩, ⟨F7.out.1, fun p hp => F7.out.2 p (List.mem_cons_of_mem _ hp)⟩⟩))
      have RZ : Hid (SRow wZ w.heap.size v14 (k0.steps ++ [⟨2, 0, x⟩])) := by
        rw [Nat.zero_add] at hown14
        show World.ownsRow _ _ _ _ _ (k0.steps ++ [_]).length _
        rw [List.length_append]
        exact hown14
      clear hown14 gr14 hv14 NW H28 Q26 R27
      obtain ⟨A14, m14, c14, e14⟩ := own_one RZ.out
      subst e14
      refine hK.out _ _ (Qm.sx QZ.out) (fun hHeld => ?_)
      clear hK K
      try simp only [Act.put]
      refine OuK.tke 15 (some 137) (.pointer (some ⟨g, 0, none⟩)) rfl rfl ?_
      try simp only [Act.put]
      refine OuK.tke 16 (some 138) (.pointer (some ⟨g, 1, none⟩)) rfl rfl ?_
      try simp only [Act.put]
      obtain ⟨g8, cap8, cur8, e8, hg8, hgg, d0, d1, d2⟩ := get0 QZ.out.gets
      simp only [Value.slice.injEq, Option.some.injEq, Addr.mk.injEq, and_true, true_and] at e8
      obtain ⟨rfl, rfl⟩ := e8
      have hf := qfroz hgg
      refine OuK.oneX 17 (by kernel_rfl) rfl (by decide) (fun K hK => ?_)
      go_simp
      refine hK.out _ _ ?_
      clear hK K
      try simp only [Act.put, List.setIfInBounds_toArray]
      refine OuK.done (by kernel_rfl) ?_
      try (go_upto_region 30 with fail)
      have SN : ((k0.steps ++ [⟨2, 0, x⟩] : List Stp).length ≤ 20 ∧ Sm (k0.steps ++ [⟨2, 0, x⟩])) := by
        refine ⟨by rw [List.length_append]; simp only [List.length_cons, List.length_nil]; omega, fun s hs => ?_⟩
        rcases List.mem_append.1 hs with h1 | h1
        · exact SMK.out s h1
        · rw [List.mem_singleton.1 h1]; exact hx
      have QN := Seg.hid (Qm.setS CA.out QZ.out RZ.out SN)
      have VAR := Seg.hid QN.out.var
      obtain ⟨t4, w4', o4⟩ := Qb.out CA.out QN.out
      dsimp only at t4 w4' o4
      have T4 := Seg.hid t4
      have W4 := Seg.hid w4'
      have O4 := Seg.hid o4
      clear t4 w4' o4
      have ON : Hid ((qv { q with gets := { k0 with steps := k0.steps ++ [⟨2, 0, x⟩] } :: r.map Prod.fst } (.slice A5 m5 c5') (.slice A6 q.gps.length c6') (.slice (some ⟨g, 0, none⟩) (r.length + 1) cap)).all (·.oneCell') = true) := qv_one ⟨_, _, _, rfl⟩ ⟨_, _, _, rfl⟩ ⟨_, _, _, rfl⟩
      go_wp2_with (first | (refine wpList_load_row rfl 28 _ rfl gq rfl _ _ _ _ VAR.out Try.underlying28 rfl infoQ ?_) | (refine wpList_store_mid rfl 28 _ _ rfl (gq + 1) 0 (qv { q with gets := { k0 with steps := k0.steps ++ [⟨2, 0, x⟩] } :: r.map Prod.fst } (.slice A5 m5 c5') (.slice A6 q.gps.length c6') (.slice (some ⟨g, 0, none⟩) (r.length + 1) cap)) rfl rfl T4.out infoQ ON.out ?_))
      exact bodyPost_ret (v := .agg (qv { q with gets := { k0 with steps := k0.steps ++ [⟨2, 0, x⟩] } :: r.map Prod.fst } (.slice A5 m5 c5') (.slice A6 q.gps.length c6') (.slice (some ⟨g, 0, none⟩) (r.length + 1) cap))) (results_cell_row rfl _ _ (gq + 1) _ _ _ _ rfl W4.out Try.underlying28 rfl infoQ) rfl (by first | exact ⟨{ q with gets := { k0 with steps := k0.steps ++ [⟨2, 0, x⟩] } :: r.map Prod.fst }, _, _, _, rfl, ⟨(({ k0 with steps := k0.steps ++ [⟨2, 0, x⟩] }, .slice A14 m14 c14) :: r), O4.out.1⟩, O4.out.2⟩ | exact ⟨{ q with gets := { k0 with steps := k0.steps ++ [⟨2, 0, x⟩] } :: r.map Prod.fst }, _, _, _, (({ k0 with steps := k0.steps ++ [⟨2, 0, x⟩] }, .slice A14 m14 c14) :: r), rfl, O4.out.1, O4.out.2⟩)
    · go_simp
      have Q30 := Seg.hid (D0.out.alloc hb (.cells #[.string ⟨#[117, 115, 101, 114]⟩, .string ⟨#[110, 111]⟩, .string ⟨#[115, 117, 109]⟩] 9 (0, 0)))
      refine hK.out _ _ (Qb.sx Q30.out) (fun hHeld => ?_)
      clear hK K
      try simp only [Act.put, List.setIfInBounds_toArray, List.set_cons_zero, List.set_cons_succ]
      obtain ⟨w4_29, hY⟩ : ∃ z, wA.alloc (.cells #[.string ⟨#[117, 115, 101, 114]⟩, .string ⟨#[110, 111]⟩, .string ⟨#[115, 117, 109]⟩] 9 (0, 0)) = z := ⟨_, rfl⟩
      have H34 := Seg.hid (Blk.new D0.out.o.lft.grown.size #[.string ⟨#[117, 115, 101, 114]⟩, .string ⟨#[110, 111]⟩, .string ⟨#[115, 117, 109]⟩] 9)
      rw [hY] at Q30 hHeld H34 ⊢
      clear hY D0
      generalize wA.heap.size = gl31 at *
      refine OuK.two 2 10 (by kernel_rfl) rfl rfl (by decide) (by decide) (fun K hK => ?_) (fun K hK => ?_)
      · go_simp
        have Q36 := Seg.hid (Q30.out.alloc hb (.cells #[] 55 (0, 0)))
        refine hK.out _ _ (Qb.sx Q36.out) (fun hHeld => ?_)
        clear hK K
        try simp only [Act.put, List.setIfInBounds_toArray, List.set_cons_zero, List.set_cons_succ]
        obtain ⟨w4_35, hY⟩ : ∃ z, w4_29.alloc (.cells #[] 55 (0, 0)) = z := ⟨_, rfl⟩
        have H40 := Seg.hid (Blk.new Q30.out.o.lft.grown.size #[] 55)
        have H41 := Seg.hid (H34.out.alloc (.cells #[] 55 (0, 0)))
        have F42 := Seg.hid (Qb.far Q30.out)
        rw [hY] at Q36 hHeld H40 H41 ⊢
        clear hY Q30 H34
        generalize w4_29.heap.size = ge38 at *
        refine OuK.one 10 (by kernel_rfl) rfl (by decide) (fun K hK => ?_)
        (go_simp; go_at_call 22; refine (pickS_at [(⟨#[117, 115, 101, 114]⟩ : ByteArray), (⟨#[110, 111]⟩ : ByteArray), (⟨#[115, 117, 109]⟩ : ByteArray)] hb Q36.out.o.lft.cur H41.out (by decide) (by decide) (by decide) rfl).mono ?_; rintro e w4_43 ⟨⟨x, hx, rfl⟩, M⟩; have Q44 := Seg.hid (Q36.out.draw hb M); have H45 := Seg.hid (H40.out.draw hb M); clear M Q36 H41 H40; try (go_wp2_with fail))
        refine hK.out _ _ (Qb.sx Q44.out) (fun hHeld => ?_)
        clear hK K
        try simp only [Act.put, List.setIfInBounds_toArray, List.set_cons_zero, List.set_cons_succ]
        refine OuK.tke 11 (some 133) (.agg #[.int .i64 2, .int .i64 0, .string x]) rfl rfl ?_
        try simp only [Act.put, List.setIfInBounds_toArray, List.set_cons_zero, List.set_cons_succ]
        refine OuK.one 12 (by kernel_rfl) rfl (by decide) (fun K hK => ?_)
        go_simp
        have Q47 := Seg.hid (Q44.out.alloc hb (.cells #[.int .i64 2, .int .i64 0, .string x] 55 (0, 0)))
        refine hK.out _ _ (Qb.sx Q47.out) (fun hHeld => ?_)
        clear hK K
        try simp only [Act.put, List.setIfInBounds_toArray, List.set_cons_zero, List.set_cons_succ]
        obtain ⟨w4_46, hY⟩ : ∃ z, w4_43.alloc (.cells #[.int .i64 2, .int .i64 0, .string x] 55 (0, 0)) = z := ⟨_, rfl⟩
        have H51 := Seg.hid (Blk.new Q44.out.o.lft.grown.size #[.int .i64 2, .int .i64 0, .string x] 55)
        have H52 := Seg.hid (H45.out.alloc (.cells #[.int .i64 2, .int .i64 0, .string x] 55 (0, 0)))
        rw [hY] at Q47 hHeld H51 H52 ⊢
        clear hY Q44 H45
        generalize w4_43.heap.size = gn50 at *
        refine OuK.one 13 (by kernel_rfl) rfl (by decide) (fun K hK => ?_)
        have l10 : k0.steps.length ≤ 10 := L5.out.2.2
        refine step_append_lies _ (by rfl) _ _ 24 (by rfl) w.heap.size 55 iS _ 3 32 Try.underlying24 hiS hsz0 hsz1 hsz2 rfl (by decide) (.slice Ap k0.steps.length cp) k0.steps.length (scells k0.steps) (by rfl) (Q47.out.o.el (k0, .slice Ap k0.steps.length cp) (List.mem_cons_self ..)) ⟨gn50, 0, none⟩ 1 1 [.int .i64 2, .int .i64 0, .string x] (by rfl) (by rfl) (World.news_of_block (cs := #[.int .i64 2, .int .i64 0, .string x]) H51.out.2) (by simp [Value.oneCell']) (by decide) (by unfold maxLen; omega) (by omega) Q47.out.o.lft.grown.size w4_46.heap.size rfl ?_
        intro g9 cap9 w4_53 hown9 gr9 hat9 hlt9
        have Q54 := Seg.hid (Qb.push0 CA.out Q47.out (fun y hy => DIS.out y hy) gr9)
        have R55 : Hid (SRow w4_53 w.heap.size (.slice (some ⟨g9, 0, none⟩) (k0.steps.length + 1) cap9) (k0.steps ++ [⟨2, 0, x⟩])) := SRow.add (m := [⟨2, 0, x⟩]) hown9
        have H56 := Seg.hid (H52.out.grown gr9 (F42.out.2 (k0, .slice Ap k0.steps.length cp) (List.mem_cons_self ..)))
        clear hown9 gr9 hat9 hlt9 Q47 H51 H52
        refine hK.out _ _ (Qm.sx Q54.out) (fun hHeld => ?_)
        clear hK K
        try simp only [Act.put, List.setIfInBounds_toArray]
        refine OuK.one 14 (by kernel_rfl) rfl (by decide) (fun K hK => ?_)
        have l10 : k0.steps.length ≤ 10 := L5.out.2.2
        have NW := news_of (us := k0.steps ++ [⟨2, 0, x⟩]) (A := some ⟨g9, 0, none⟩) (c := cap9) (by have h := SRow.lat (base := w.heap.size) (by rw [List.length_append]; simp only [List.length_cons, List.length_nil]; omega) R55.out; rw [List.length_append]; exact h)
        rw [List.length_append] at NW
        refine AppW.step_append_all _ (by rfl) _ _ 24 (by rfl) w.heap.size 55 iS _ 3 32 Try.underlying24 hiS hsz0 hsz1 hsz2 rfl (by decide) (.slice (some ⟨ge38, 0, none⟩) 0 0) 0 [] (by rfl) (empty_at H56.out) (some ⟨g9, 0, none⟩) (k0.steps.length + 1) cap9 (scells (k0.steps ++ [⟨2, 0, x⟩])) (by rfl) (by rw [scells_len, List.length_append]; rfl) NW (scells_one _) (by unfold maxLen; omega) (by omega) Q54.out.lft.grown.size ?_
        intro v14 wZ hown14 gr14 hv14
        have QZ := Seg.hid (Qm.grown CA.out Q54.out gr14 (fun y hy => by cases hy; exact ⟨H56.out.1, ⟨_, H56.out.2⟩, ⟨F42.out.1, fun p hp => F42.out.2 p (List.mem_cons_of_mem _ hp)⟩⟩))
        have RZ : Hid (SRow wZ w.heap.size v14 (k0.steps ++ [⟨2, 0, x⟩])) := by
          rw [Nat.zero_add] at hown14
          show World.ownsRow _ _ _ _ _ (k0.steps ++ [_]).length _
          rw [List.length_append]
          exact hown14
        clear hown14 gr14 hv14 NW H56 Q54 R55
        obtain ⟨A14, m14, c14, e14⟩ := own_one RZ.out
        subst e14
        refine hK.out _ _ (Qm.sx QZ.out) (fun hHeld => ?_)
        clear hK K
        try simp only [Act.put]
        refine OuK.tke 15 (some 137) (.pointer (some ⟨g, 0, none⟩)) rfl rfl ?_
        try simp only [Act.put]
        refine OuK.tke 16 (some 138) (.pointer (some ⟨g, 1, none⟩)) rfl rfl ?_
        try simp only [Act.put]
        obtain ⟨g8, cap8, cur8, e8, hg8, hgg, d0, d1, d2⟩ := get0 QZ.out.gets
        simp only [Value.slice.injEq, Option.some.injEq, Addr.mk.injEq, and_true, true_and] at e8
        obtain ⟨rfl, rfl⟩ := e8
        have hf := qfroz hgg
        refine OuK.oneX 17 (by kernel_rfl) rfl (by decide) (fun K hK => ?_)
        go_simp
        refine hK.out _ _ ?_
        clear hK K
        try simp only [Act.put, List.setIfInBounds_toArray]
        refine OuK.done (by kernel_rfl) ?_
        try (go_upto_region 30 with fail)
        have SN : ((k0.steps ++ [⟨2, 0, x⟩] : List Stp).length ≤ 20 ∧ Sm (k0.steps ++ [⟨2, 0, x⟩])) := by
          refine ⟨by rw [List.length_append]; simp only [List.length_cons, List.length_nil]; omega, fun s hs => ?_⟩
          rcases List.mem_append.1 hs with h1 | h1
          · exact SMK.out s h1
          · rw [List.mem_singleton.1 h1]; exact hx
        have QN := Seg.hid (Qm.setS CA.out QZ.out RZ.out SN)
        have VAR := Seg.hid QN.out.var
        obtain ⟨t4, w4', o4⟩ := Qb.out CA.out QN.out
        dsimp only at t4 w4' o4
        have T4 := Seg.hid t4
        have W4 := Seg.hid w4'
        have O4 := Seg.hid o4
        clear t4 w4' o4
        have ON : Hid ((qv { q with gets := { k0 with steps := k0.steps ++ [⟨2, 0, x⟩] } :: r.map Prod.fst } (.slice A5 m5 c5') (.slice A6 q.gps.length c6') (.slice (some ⟨g, 0, none⟩) (r.length + 1) cap)).all (·.oneCell') = true) := qv_one ⟨_, _, _, rfl⟩ ⟨_, _, _, rfl⟩ ⟨_, _, _, rfl⟩
        go_wp2_with (first | (refine wpList_load_row rfl 28 _ rfl gq rfl _ _ _ _ VAR.out Try.underlying28 rfl infoQ ?_) | (refine wpList_store_mid rfl 28 _ _ rfl (gq + 1) 0 (qv { q with gets := { k0 with steps := k0.steps ++ [⟨2, 0, x⟩] } :: r.map Prod.fst } (.slice A5 m5 c5') (.slice A6 q.gps.length c6') (.slice (some ⟨g, 0, none⟩) (r.length + 1) cap)) rfl rfl T4.out infoQ ON.out ?_))
        exact bodyPost_ret (v := .agg (qv { q with gets := { k0 with steps := k0.steps ++ [⟨2, 0, x⟩] } :: r.map Prod.fst } (.slice A5 m5 c5') (.slice A6 q.gps.length c6') (.slice (some ⟨g, 0, none⟩) (r.length + 1) cap))) (results_cell_row rfl _ _ (gq + 1) _ _ _ _ rfl W4.out Try.underlying28 rfl infoQ) rfl (by first | exact ⟨{ q with gets := { k0 with steps := k0.steps ++ [⟨2, 0, x⟩] } :: r.map Prod.fst }, _, _, _, rfl, ⟨(({ k0 with steps := k0.steps ++ [⟨2, 0, x⟩] }, .slice A14 m14 c14) :: r), O4.out.1⟩, O4.out.2⟩ | exact ⟨{ q with gets := { k0 with steps := k0.steps ++ [⟨2, 0, x⟩] } :: r.map Prod.fst }, _, _, _, (({ k0 with steps := k0.steps ++ [⟨2, 0, x⟩] }, .slice A14 m14 c14) :: r), rfl, O4.out.1, O4.out.2⟩)
      · (go_simp; go_at_call 22; refine (pickS_at [(⟨#[117, 115, 101, 114]⟩ : ByteArray), (⟨#[110, 111]⟩ : ByteArray), (⟨#[115, 117, 109]⟩ : ByteArray)] hb Q30.out.o.lft.cur H34.out (by decide) (by decide) (by decide) rfl).mono ?_; rintro e w4_57 ⟨⟨x, hx, rfl⟩, M⟩; have Q58 := Seg.hid (Q30.out.draw hb M); clear M Q30 H34; try (go_wp2_with fail))
        refine hK.out _ _ (Qb.sx Q58.out) (fun hHeld => ?_)
        clear hK K
        try simp only [Act.put, List.setIfInBounds_toArray, List.set_cons_zero, List.set_cons_succ]
        refine OuK.tke 11 (some 133) (.agg #[.int .i64 2, .int .i64 0, .string x]) rfl rfl ?_
        try simp only [Act.put, List.setIfInBounds_toArray, List.set_cons_zero, List.set_cons_succ]
        refine OuK.two 2 12 (by kernel_rfl) rfl rfl (by decide) (by decide) (fun K hK => ?_) (fun K hK => ?_)
        · go_simp
          have Q60 := Seg.hid (Q58.out.alloc hb (.cells #[] 55 (0, 0)))
          refine hK.out _ _ (Qb.sx Q60.out) (fun hHeld => ?_)
          clear hK K
          try simp only [Act.put, List.setIfInBounds_toArray, List.set_cons_zero, List.set_cons_succ]
          obtain ⟨w4_59, hY⟩ : ∃ z, w4_57.alloc (.cells #[] 55 (0, 0)) = z := ⟨_, rfl⟩
          have H64 := Seg.hid (Blk.new Q58.out.o.lft.grown.size #[] 55)
          have F65 := Seg.hid (Qb.far Q58.out)
          rw [hY] at Q60 hHeld H64 ⊢
          clear hY Q58
          generalize w4_57.heap.size = ge62 at *
          refine OuK.one 12 (by kernel_rfl) rfl (by decide) (fun K hK => ?_)
          go_simp
          have Q67 := Seg.hid (Q60.out.alloc hb (.cells #[.int .i64 2, .int .i64 0, .string x] 55 (0, 0)))
          refine hK.out _ _ (Qb.sx Q67.out) (fun hHeld => ?_)
          clear hK K
          try simp only [Act.put, List.setIfInBounds_toArray, List.set_cons_zero, List.set_cons_succ]
          obtain ⟨w4_66, hY⟩ : ∃ z, w4_59.alloc (.cells #[.int .i64 2, .int .i64 0, .string x] 55 (0, 0)) = z := ⟨_, rfl⟩
          have H71 := Seg.hid (Blk.new Q60.out.o.lft.grown.size #[.int .i64 2, .int .i64 0, .string x] 55)
          have H72 := Seg.hid (H64.out.alloc (.cells #[.int .i64 2, .int .i64 0, .string x] 55 (0, 0)))
          rw [hY] at Q67 hHeld H71 H72 ⊢
          clear hY Q60 H64
          generalize w4_59.heap.size = gn70 at *
          refine OuK.one 13 (by kernel_rfl) rfl (by decide) (fun K hK => ?_)
          have l10 : k0.steps.length ≤ 10 := L5.out.2.2
          refine step_append_lies _ (by rfl) _ _ 24 (by rfl) w.heap.size 55 iS _ 3 32 Try.underlying24 hiS hsz0 hsz1 hsz2 rfl (by decide) (.slice Ap k0.steps.length cp) k0.steps.length (scells k0.steps) (by rfl) (Q67.out.o.el (k0, .slice Ap k0.steps.length cp) (List.mem_cons_self ..)) ⟨gn70, 0, none⟩ 1 1 [.int .i64 2, .int .i64 0, .string x] (by rfl) (by rfl) (World.news_of_block (cs := #[.int .i64 2, .int .i64 0, .string x]) H71.out.2) (by simp [Value.oneCell']) (by decide) (by unfold maxLen; omega) (by omega) Q67.out.o.lft.grown.size w4_66.heap.size rfl ?_
          intro g9 cap9 w4_73 hown9 gr9 hat9 hlt9
          have Q74 := Seg.hid (Qb.push0 CA.out Q67.out (fun y hy => DIS.out y hy) gr9)
          have R75 : Hid (SRow w4_73 w.heap.size (.slice (some ⟨g9, 0, none⟩) (k0.steps.length + 1) cap9) (k0.steps ++ [⟨2, 0, x⟩])) := SRow.add (m := [⟨2, 0, x⟩]) hown9
          have H76 := Seg.hid (H72.out.grown gr9 (F65.out.2 (k0, .slice Ap k0.steps.length cp) (List.mem_cons_self ..)))
          clear hown9 gr9 hat9 hlt9 Q67 H71 H72
          refine hK.out _ _ (Qm.sx Q74.out) (fun hHeld => ?_)
          clear hK K
          try simp only [Act.put, List.setIfInBounds_toArray]
          refine OuK.one 14 (by kernel_rfl) rfl (by decide) (fun K hK => ?_)
          have l10 : k0.steps.length ≤ 10 := L5.out.2.2
          have NW := news_of (us := k0.steps ++ [⟨2, 0, x⟩]) (A := some ⟨g9, 0, none⟩) (c := cap9) (by have h := SRow.lat (base := w.heap.size) (by rw [List.length_append]; simp only [List.length_cons, List.length_nil]; omega) R75.out; rw [List.length_append]; exact h)
          rw [List.length_append] at NW
          refine AppW.step_append_all _ (by rfl) _ _ 24 (by rfl) w.heap.size 55 iS _ 3 32 Try.underlying24 hiS hsz0 hsz1 hsz2 rfl (by decide) (.slice (some ⟨ge62, 0, none⟩) 0 0) 0 [] (by rfl) (empty_at H76.out) (some ⟨g9, 0, none⟩) (k0.steps.length + 1) cap9 (scells (k0.steps ++ [⟨2, 0, x⟩])) (by rfl) (by rw [scells_len, List.length_append]; rfl) NW (scells_one _) (by unfold maxLen; omega) (by omega) Q74.out.lft.grown.size ?_
          intro v14 wZ hown14 gr14 hv14
          have QZ := Seg.hid (Qm.grown CA.out Q74.out gr14 (fun y hy => by cases hy; exact ⟨H76.out.1, ⟨_, H76.out.2⟩, ⟨F65.out.1, fun p hp => F65.out.2 p (List.mem_cons_of_mem _ hp)⟩⟩))
          have RZ : Hid (SRow wZ w.heap.size v14 (k0.steps ++ [⟨2, 0, x⟩])) := by
            rw [Nat.zero_add] at hown14
            show World.ownsRow _ _ _ _ _ (k0.steps ++ [_]).length _
            rw [List.length_append]
            exact hown14
          clear hown14 gr14 hv14 NW H76 Q74 R75
          obtain ⟨A14, m14, c14, e14⟩ := own_one RZ.out
          subst e14
          refine hK.out _ _ (Qm.sx QZ.out) (fun hHeld => ?_)
          clear hK K
          try simp only [Act.put]
          refine OuK.tke 15 (some 137) (.pointer (some ⟨g, 0, none⟩)) rfl rfl ?_
          try simp only [Act.put]
          refine OuK.tke 16 (some 138) (.pointer (some ⟨g, 1, none⟩)) rfl rfl ?_
          try simp only [Act.put]
          obtain ⟨g8, cap8, cur8, e8, hg8, hgg, d0, d1, d2⟩ := get0 QZ.out.gets
          simp only [Value.slice.injEq, Option.some.injEq, Addr.mk.injEq, and_true, true_and] at e8
          obtain ⟨rfl, rfl⟩ := e8
          have hf := qfroz hgg
          refine OuK.oneX 17 (by kernel_rfl) rfl (by decide) (fun K hK => ?_)
          go_simp
          refine hK.out _ _ ?_
          clear hK K
          try simp only [Act.put, List.setIfInBounds_toArray]
          refine OuK.done (by kernel_rfl) ?_
          try (go_upto_region 30 with fail)
          have SN : ((k0.steps ++ [⟨2, 0, x⟩] : List Stp).length ≤ 20 ∧ Sm (k0.steps ++ [⟨2, 0, x⟩])) := by
            refine ⟨by rw [List.length_append]; simp only [List.length_cons, List.length_nil]; omega, fun s hs => ?_⟩
            rcases List.mem_append.1 hs with h1 | h1
            · exact SMK.out s h1
            · rw [List.mem_singleton.1 h1]; exact hx
          have QN := Seg.hid (Qm.setS CA.out QZ.out RZ.out SN)
          have VAR := Seg.hid QN.out.var
          obtain ⟨t4, w4', o4⟩ := Qb.out CA.out QN.out
          dsimp only at t4 w4' o4
          have T4 := Seg.hid t4
          have W4 := Seg.hid w4'
          have O4 := Seg.hid o4
          clear t4 w4' o4
          have ON : Hid ((qv { q with gets := { k0 with steps := k0.steps ++ [⟨2, 0, x⟩] } :: r.map Prod.fst } (.slice A5 m5 c5') (.slice A6 q.gps.length c6') (.slice (some ⟨g, 0, none⟩) (r.length + 1) cap)).all (·.oneCell') = true) := qv_one ⟨_, _, _, rfl⟩ ⟨_, _, _, rfl⟩ ⟨_, _, _, rfl⟩
          go_wp2_with (first | (refine wpList_load_row rfl 28 _ rfl gq rfl _ _ _ _ VAR.out Try.underlying28 rfl infoQ ?_) | (refine wpList_store_mid rfl 28 _ _ rfl (gq + 1) 0 (qv { q with gets := { k0 with steps := k0.steps ++ [⟨2, 0, x⟩] } :: r.map Prod.fst } (.slice A5 m5 c5') (.slice A6 q.gps.length c6') (.slice (some ⟨g, 0, none⟩) (r.length + 1) cap)) rfl rfl T4.out infoQ ON.out ?_))
          exact bodyPost_ret (v := .agg (qv { q with gets := { k0 with steps := k0.steps ++ [⟨2, 0, x⟩] } :: r.map Prod.fst } (.slice A5 m5 c5') (.slice A6 q.gps.length c6') (.slice (some ⟨g, 0, none⟩) (r.length + 1) cap))) (results_cell_row rfl _ _ (gq + 1) _ _ _ _ rfl W4.out Try.underlying28 rfl infoQ) rfl (by first | exact ⟨{ q with gets := { k0 with steps := k0.steps ++ [⟨2, 0, x⟩] } :: r.map Prod.fst }, _, _, _, rfl, ⟨(({ k0 with steps := k0.steps ++ [⟨2, 0, x⟩] }, .slice A14 m14 c14) :: r), O4.out.1⟩, O4.out.2⟩ | exact ⟨{ q with gets := { k0 with steps := k0.steps ++ [⟨2, 0, x⟩] } :: r.map Prod.fst }, _, _, _, (({ k0 with steps := k0.steps ++ [⟨2, 0, x⟩] }, .slice A14 m14 c14) :: r), rfl, O4.out.1, O4.out.2⟩)
        · go_simp
          have Q78 := Seg.hid (Q58.out.alloc hb (.cells #[.int .i64 2, .int .i64 0, .string x] 55 (0, 0)))
          refine hK.out _ _ (Qb.sx Q78.out) (fun hHeld => ?_)
          clear hK K
          try simp only [Act.put, List.setIfInBounds_toArray, List.set_cons_zero, List.set_cons_succ]
          obtain ⟨w4_77, hY⟩ : ∃ z, w4_57.alloc (.cells #[.int .i64 2, .int .i64 0, .string x] 55 (0, 0)) = z := ⟨_, rfl⟩
          have H82 := Seg.hid (Blk.new Q58.out.o.lft.grown.size #[.int .i64 2, .int .i64 0, .string x] 55)
          rw [hY] at Q78 hHeld H82 ⊢
          clear hY Q58
          generalize w4_57.heap.size = gn81 at *
          refine OuK.two 2 13 (by kernel_rfl) rfl rfl (by decide) (by decide) (fun K hK => ?_) (fun K hK => ?_)
          · go_simp
            have Q84 := Seg.hid (Q78.out.alloc hb (.cells #[] 55 (0, 0)))
            refine hK.out _ _ (Qb.sx Q84.out) (fun hHeld => ?_)
            clear hK K
            try simp only [Act.put, List.setIfInBounds_toArray, List.set_cons_zero, List.set_cons_succ]
            obtain ⟨w4_83, hY⟩ : ∃ z, w4_77.alloc (.cells #[] 55 (0, 0)) = z := ⟨_, rfl⟩
            have H88 := Seg.hid (Blk.new Q78.out.o.lft.grown.size #[] 55)
            have H89 := Seg.hid (H82.out.alloc (.cells #[] 55 (0, 0)))
            have F90 := Seg.hid (Qb.far Q78.out)
            rw [hY] at Q84 hHeld H88 H89 ⊢
            clear hY Q78 H82
            generalize w4_77.heap.size = ge86 at *
            refine OuK.one 13 (by kernel_rfl) rfl (by decide) (fun K hK => ?_)
            have l10 : k0.steps.length ≤ 10 := L5.out.2.2
            refine step_append_lies _ (by rfl) _ _ 24 (by rfl) w.heap.size 55 iS _ 3 32 Try.underlying24 hiS hsz0 hsz1 hsz2 rfl (by decide) (.slice Ap k0.steps.length cp) k0.steps.length (scells k0.steps) (by rfl) (Q84.out.o.el (k0, .slice Ap k0.steps.length cp) (List.mem_cons_self ..)) ⟨gn81, 0, none⟩ 1 1 [.int .i64 2, .int .i64 0, .string x] (by rfl) (by rfl) (World.news_of_block (cs := #[.int .i64 2, .int .i64 0, .string x]) H89.out.2) (by simp [Value.oneCell']) (by decide) (by unfold maxLen; omega) (by omega) Q84.out.o.lft.grown.size w4_83.heap.size rfl ?_
            intro g9 cap9 w4_91 hown9 gr9 hat9 hlt9
            have Q92 := Seg.hid (Qb.push0 CA.out Q84.out (fun y hy => DIS.out y hy) gr9)
            have R93 : Hid (SRow w4_91 w.heap.size (.slice (some ⟨g9, 0, none⟩) (k0.steps.length + 1) cap9) (k0.steps ++ [⟨2, 0, x⟩])) := SRow.add (m := [⟨2, 0, x⟩]) hown9
            have H94 := Seg.hid (H88.out.grown gr9 (F90.out.2 (k0, .slice Ap k0.steps.length cp) (List.mem_cons_self ..)))
            clear hown9 gr9 hat9 hlt9 Q84 H89 H88
            refine hK.out _ _ (Qm.sx Q92.out) (fun hHeld => ?_)
            clear hK K
            try simp only [Act.put, List.setIfInBounds_toArray]
            refine OuK.one 14 (by kernel_rfl) rfl (by decide) (fun K hK => ?_)
            have l10 : k0.steps.length ≤ 10 := L5.out.2.2
            have NW := news_of (us := k0.steps ++ [⟨2, 0, x⟩]) (A := some ⟨g9, 0, none⟩) (c := cap9) (by have h := SRow.lat (base := w.heap.size) (by rw [List.length_append]; simp only [List.length_cons, List.length_nil]; omega) R93.out; rw [List.length_append]; exact h)
            rw [List.length_append] at NW
            refine AppW.step_append_all _ (by rfl) _ _ 24 (by rfl) w.heap.size 55 iS _ 3 32 Try.underlying24 hiS hsz0 hsz1 hsz2 rfl (by decide) (.slice (some ⟨ge86, 0, none⟩) 0 0) 0 [] (by rfl) (empty_at H94.out) (some ⟨g9, 0, none⟩) (k0.steps.length + 1) cap9 (scells (k0.steps ++ [⟨2, 0, x⟩])) (by rfl) (by rw [scells_len, List.length_append]; rfl) NW (scells_one _) (by unfold maxLen; omega) (by omega) Q92.out.lft.grown.size ?_
            intro v14 wZ hown14 gr14 hv14
            have QZ := Seg.hid (Qm.grown CA.out Q92.out gr14 (fun y hy => by cases hy; exact ⟨H94.out.1, ⟨_, H94.out.2⟩, ⟨F90.out.1, fun p hp => F90.out.2 p (List.mem_cons_of_mem _ hp)⟩⟩))
            have RZ : Hid (SRow wZ w.heap.size v14 (k0.steps ++ [⟨2, 0, x⟩])) := by
              rw [Nat.zero_add] at hown14
              show World.ownsRow _ _ _ _ _ (k0.steps ++ [_]).length _
              rw [List.length_append]
              exact hown14
            clear hown14 gr14 hv14 NW H94 Q92 R93
            obtain ⟨A14, m14, c14, e14⟩ := own_one RZ.out
            subst e14
            refine hK.out _ _ (Qm.sx QZ.out) (fun hHeld => ?_)
            clear hK K
            try simp only [Act.put]
            refine OuK.tke 15 (some 137) (.pointer (some ⟨g, 0, none⟩)) rfl rfl ?_
            try simp only [Act.put]
            refine OuK.tke 16 (some 138) (.pointer (some ⟨g, 1, none⟩)) rfl rfl ?_
            try simp only [Act.put]
            obtain ⟨g8, cap8, cur8, e8, hg8, hgg, d0, d1, d2⟩ := get0 QZ.out.gets
            simp only [Value.slice.injEq, Option.some.injEq, Addr.mk.injEq, and_true, true_and] at e8
            obtain ⟨rfl, rfl⟩ := e8
            have hf := qfroz hgg
            refine OuK.oneX 17 (by kernel_rfl) rfl (by decide) (fun K hK => ?_)
            go_simp
            refine hK.out _ _ ?_
            clear hK K
            try simp only [Act.put, List.setIfInBounds_toArray]
            refine OuK.done (by kernel_rfl) ?_
            try (go_upto_region 30 with fail)
            have SN : ((k0.steps ++ [⟨2, 0, x⟩] : List Stp).length ≤ 20 ∧ Sm (k0.steps ++ [⟨2, 0, x⟩])) := by
              refine ⟨by rw [List.length_append]; simp only [List.length_cons, List.length_nil]; omega, fun s hs => ?_⟩
              rcases List.mem_append.1 hs with h1 | h1
              · exact SMK.out s h1
              · rw [List.mem_singleton.1 h1]; exact hx
            have QN := Seg.hid (Qm.setS CA.out QZ.out RZ.out SN)
            have VAR := Seg.hid QN.out.var
            obtain ⟨t4, w4', o4⟩ := Qb.out CA.out QN.out
            dsimp only at t4 w4' o4
            have T4 := Seg.hid t4
            have W4 := Seg.hid w4'
            have O4 := Seg.hid o4
            clear t4 w4' o4
            have ON : Hid ((qv { q with gets := { k0 with steps := k0.steps ++ [⟨2, 0, x⟩] } :: r.map Prod.fst } (.slice A5 m5 c5') (.slice A6 q.gps.length c6') (.slice (some ⟨g, 0, none⟩) (r.length + 1) cap)).all (·.oneCell') = true) := qv_one ⟨_, _, _, rfl⟩ ⟨_, _, _, rfl⟩ ⟨_, _, _, rfl⟩
            go_wp2_with (first | (refine wpList_load_row rfl 28 _ rfl gq rfl _ _ _ _ VAR.out Try.underlying28 rfl infoQ ?_) | (refine wpList_store_mid rfl 28 _ _ rfl (gq + 1) 0 (qv { q with gets := { k0 with steps := k0.steps ++ [⟨2, 0, x⟩] } :: r.map Prod.fst } (.slice A5 m5 c5') (.slice A6 q.gps.length c6') (.slice (some ⟨g, 0, none⟩) (r.length + 1) cap)) rfl rfl T4.out infoQ ON.out ?_))
            exact bodyPost_ret (v := .agg (qv { q with gets := { k0 with steps := k0.steps ++ [⟨2, 0, x⟩] } :: r.map Prod.fst } (.slice A5 m5 c5') (.slice A6 q.gps.length c6') (.slice (some ⟨g, 0, none⟩) (r.length + 1) cap))) (results_cell_row rfl _ _ (gq + 1) _ _ _ _ rfl W4.out Try.underlying28 rfl infoQ) rfl (by first | exact ⟨{ q with gets := { k0 with steps := k0.steps ++ [⟨2, 0, x⟩] } :: r.map Prod.fst }, _, _, _, rfl, ⟨(({ k0 with steps := k0.steps ++ [⟨2, 0, x⟩] }, .slice A14 m14 c14) :: r), O4.out.1⟩, O4.out.2⟩ | exact ⟨{ q with gets := { k0 with steps := k0.steps ++ [⟨2, 0, x⟩] } :: r.map Prod.fst }, _, _, _, (({ k0 with steps := k0.steps ++ [⟨2, 0, x⟩] }, .slice A14 m14 c14) :: r), rfl, O4.out.1, O4.out.2⟩)
          · have l10 : k0.steps.length ≤ 10 := L5.out.2.2
            refine step_append_lies _ (by rfl) _ _ 24 (by rfl) w.heap.size 55 iS _ 3 32 Try.underlying24 hiS hsz0 hsz1 hsz2 rfl (by decide) (.slice Ap k0.steps.length cp) k0.steps.length (scells k0.steps) (by rfl) (Q78.out.o.el (k0, .slice Ap k0.steps.length cp) (List.mem_cons_self ..)) ⟨gn81, 0, none⟩ 1 1 [.int .i64 2, .int .i64 0, .string x] (by rfl) (by rfl) (World.news_of_block (cs := #[.int .i64 2, .int .i64 0, .string x]) H82.out.2) (by simp [Value.oneCell']) (by decide) (by unfold maxLen; omega) (by omega) Q78.out.o.lft.grown.size w4_77.heap.size rfl ?_
            intro g9 cap9 w4_95 hown9 gr9 hat9 hlt9
            have Q96 := Seg.hid (Qb.push0 CA.out Q78.out (fun y hy => DIS.out y hy) gr9)
            have R97 : Hid (SRow w4_95 w.heap.size (.slice (some ⟨g9, 0, none⟩) (k0.steps.length + 1) cap9) (k0.steps ++ [⟨2, 0, x⟩])) := SRow.add (m := [⟨2, 0, x⟩]) hown9
            clear hown9 gr9 hat9 hlt9 Q78 H82
            refine hK.out _ _ (Qm.sx Q96.out) (fun hHeld => ?_)
            clear hK K
            try simp only [Act.put, List.setIfInBounds_toArray]
            refine OuK.one 2 (by kernel_rfl) rfl (by decide) (fun K hK => ?_)
            go_simp
            have Q99 := Seg.hid (Qm.alloc CA.out Q96.out (.cells #[] 55 (0, 0)))
            refine hK.out _ _ (Qm.sx Q99.out) (fun hHeld => ?_)
            clear hK K
            try simp only [Act.put, List.setIfInBounds_toArray, List.set_cons_zero, List.set_cons_succ]
            obtain ⟨w4_98, hY⟩ : ∃ z, w4_95.alloc (.cells #[] 55 (0, 0)) = z := ⟨_, rfl⟩
            have H103 := Seg.hid (Blk.new Q96.out.lft.grown.size #[] 55)
            have R104 := Seg.hid (keepRow R97.out (World.grownBy_alloc w4_95 (.cells #[] 55 (0, 0)) none) (fun y hy => by cases hy))
            have F105 := Seg.hid (Qm.far Q96.out)
            rw [hY] at Q99 hHeld H103 R104 ⊢
            clear hY Q96 R97
            generalize w4_95.heap.size = ge101 at *
            refine OuK.one 14 (by kernel_rfl) rfl (by decide) (fun K hK => ?_)
            have l10 : k0.steps.length ≤ 10 := L5.out.2.2
            have NW := news_of (us := k0.steps ++ [⟨2, 0, x⟩]) (A := some ⟨g9, 0, none⟩) (c := cap9) (by have h := SRow.lat (base := w.heap.size) (by rw [List.length_append]; simp only [List.length_cons, List.length_nil]; omega) R104.out; rw [List.length_append]; exact h)
            rw [List.length_append] at NW
            refine AppW.step_append_all _ (by rfl) _ _ 24 (by rfl) w.heap.size 55 iS _ 3 32 Try.underlying24 hiS hsz0 hsz1 hsz2 rfl (by decide) (.slice (some ⟨ge101, 0, none⟩) 0 0) 0 [] (by rfl) (empty_at H103.out) (some ⟨g9, 0, none⟩) (k0.steps.length + 1) cap9 (scells (k0.steps ++ [⟨2, 0, x⟩])) (by rfl) (by rw [scells_len, List.length_append]; rfl) NW (scells_one _) (by unfold maxLen; omega) (by omega) Q99.out.lft.grown.size ?_
            intro v14 wZ hown14 gr14 hv14
            have QZ := Seg.hid (Qm.grown CA.out Q99.out gr14 (fun y hy => by cases hy; exact ⟨H103.out.1, ⟨_, H103.out.2⟩, F105.out⟩))
            have RZ : Hid (SRow wZ w.heap.size v14 (k0.steps ++ [⟨2, 0, x⟩])) := by
              rw [Nat.zero_add] at hown14
              show World.ownsRow _ _ _ _ _ (k0.steps ++ [_]).length _
              rw [List.length_append]
              exact hown14
            clear hown14 gr14 hv14 NW H103 Q99 R104
            obtain ⟨A14, m14, c14, e14⟩ := own_one RZ.out
            subst e14
            refine hK.out _ _ (Qm.sx QZ.out) (fun hHeld => ?_)
            clear hK K
            try simp only [Act.put]
            refine OuK.tke 15 (some 137) (.pointer (some ⟨g, 0, none⟩)) rfl rfl ?_
            try simp only [Act.put]
            refine OuK.tke 16 (some 138) (.pointer (some ⟨g, 1, none⟩)) rfl rfl ?_
            try simp only [Act.put]
            obtain ⟨g8, cap8, cur8, e8, hg8, hgg, d0, d1, d2⟩ := get0 QZ.out.gets
            simp only [Value.slice.injEq, Option.some.injEq, Addr.mk.injEq, and_true, true_and] at e8
            obtain ⟨rfl, rfl⟩ := e8
            have hf := qfroz hgg
            refine OuK.oneX 17 (by kernel_rfl) rfl (by decide) (fun K hK => ?_)
            go_simp
            refine hK.out _ _ ?_
            clear hK K
            try simp only [Act.put, List.setIfInBounds_toArray]
            refine OuK.done (by kernel_rfl) ?_
            try (go_upto_region 30 with fail)
            have SN : ((k0.steps ++ [⟨2, 0, x⟩] : List Stp).length ≤ 20 ∧ Sm (k0.steps ++ [⟨2, 0, x⟩])) := by
              refine ⟨by rw [List.length_append]; simp only [List.length_cons, List.length_nil]; omega, fun s hs => ?_⟩
              rcases List.mem_append.1 hs with h1 | h1
              · exact SMK.out s h1
              · rw [List.mem_singleton.1 h1]; exact hx
            have QN := Seg.hid (Qm.setS CA.out QZ.out RZ.out SN)
            have VAR := Seg.hid QN.out.var
            obtain ⟨t4, w4', o4⟩ := Qb.out CA.out QN.out
            dsimp only at t4 w4' o4
            have T4 := Seg.hid t4
            have W4 := Seg.hid w4'
            have O4 := Seg.hid o4
            clear t4 w4' o4
            have ON : Hid ((qv { q with gets := { k0 with steps := k0.steps ++ [⟨2, 0, x⟩] } :: r.map Prod.fst } (.slice A5 m5 c5') (.slice A6 q.gps.length c6') (.slice (some ⟨g, 0, none⟩) (r.length + 1) cap)).all (·.oneCell') = true) := qv_one ⟨_, _, _, rfl⟩ ⟨_, _, _, rfl⟩ ⟨_, _, _, rfl⟩
            go_wp2_with (first | (refine wpList_load_row rfl 28 _ rfl gq rfl _ _ _ _ VAR.out Try.underlying28 rfl infoQ ?_) | (refine wpList_store_mid rfl 28 _ _ rfl (gq + 1) 0 (qv { q with gets := { k0 with steps := k0.steps ++ [⟨2, 0, x⟩] } :: r.map Prod.fst } (.slice A5 m5 c5') (.slice A6 q.gps.length c6') (.slice (some ⟨g, 0, none⟩) (r.length + 1) cap)) rfl rfl T4.out infoQ ON.out ?_))
            exact bodyPost_ret (v := .agg (qv { q with gets := { k0 with steps := k0.steps ++ [⟨2, 0, x⟩] } :: r.map Prod.fst } (.slice A5 m5 c5') (.slice A6 q.gps.length c6') (.slice (some ⟨g, 0, none⟩) (r.length + 1) cap))) (results_cell_row rfl _ _ (gq + 1) _ _ _ _ rfl W4.out Try.underlying28 rfl infoQ) rfl (by first | exact ⟨{ q with gets := { k0 with steps := k0.steps ++ [⟨2, 0, x⟩] } :: r.map Prod.fst }, _, _, _, rfl, ⟨(({ k0 with steps := k0.steps ++ [⟨2, 0, x⟩] }, .slice A14 m14 c14) :: r), O4.out.1⟩, O4.out.2⟩ | exact ⟨{ q with gets := { k0 with steps := k0.steps ++ [⟨2, 0, x⟩] } :: r.map Prod.fst }, _, _, _, (({ k0 with steps := k0.steps ++ [⟨2, 0, x⟩] }, .slice A14 m14 c14) :: r), rfl, O4.out.1, O4.out.2⟩)
  · go_upto_region 2 with fail
    go_loopw [] (fun wr => ∃ (qq : Qry) (g' cap' m' : Nat) (r' : List (Gqt × Value)), Hid (m' = r'.length + 1 ∧ m' ≤ 10) ∧ Hid (Qb w wr b A n c gq ⟨gq + 1, ob, cb⟩ qq (.slice A5 m5 c5') (.slice A6 q.gps.length c6') (.slice (some ⟨g', 0, none⟩) m' cap') ((k0, .slice Ap k0.steps.length cp) :: r'))) (fun wr => match wr.cell? ⟨gq, 10, none⟩ with | some (.slice _ m _) => 10 - m | _ => 0)
    case atStart => exact ⟨q, g, cap, r.length + 1, r, Seg.hid ⟨rfl, by have := L5.out.2.1; omega⟩, Q2⟩
    case round =>
      clear Q2
      obtain ⟨qq, g', cap', m', r', HM, HQ⟩ := hrel
      have E0 := Seg.hid (Qb.sx3 HQ.out)
      go_upto_region 2 with fail
      go_cut [13] from 7 to 13 (fun v wx => ∃ z : Bool, v = .bool z ∧ (z = true → m' < 9) ∧ Qb w wx b A n c gq ⟨gq + 1, ob, cb⟩ qq (.slice A5 m5 c5') (.slice A6 q.gps.length c6') (.slice (some ⟨g', 0, none⟩) m' cap') ((k0, .slice Ap k0.steps.length cp) :: r'))
      case first =>
        have D0 := Seg.hid (HQ.out.drew hb)
        refine OuK.start [] (fun w' => w'.cell? ⟨gq, 10, none⟩ = some (.slice (some ⟨g', 0, none⟩) m' cap')) (by kernel_rfl) E0.out.1 (fun hHeld => ?_)
        refine OuK.tke 0 (some 7) (.pointer (some ⟨gq, 10, none⟩)) rfl rfl ?_
        try simp only [Act.put, List.setIfInBounds_toArray, List.set_cons_zero, List.set_cons_succ]
        refine OuK.tke 1 (some 8) ((.slice (some ⟨g', 0, none⟩) m' cap')) rfl rfl ?_
        try simp only [Act.put, List.setIfInBounds_toArray, List.set_cons_zero, List.set_cons_succ]
        refine OuK.tke 2 (some 9) (.int .i64 (m' : Int)) rfl rfl ?_
        try simp only [Act.put, List.setIfInBounds_toArray, List.set_cons_zero, List.set_cons_succ]
        refine OuK.tke 3 (some 10) (.pointer (some ⟨b, 0, none⟩)) rfl rfl ?_
        try simp only [Act.put, List.setIfInBounds_toArray, List.set_cons_zero, List.set_cons_succ]
        refine OuK.one 4 (by kernel_rfl) rfl (by decide) (fun K hK => ?_)
        (go_simp; go_at_call 12; refine (Draw.below_any b A n c 2 _ D0.out.o.lft.cur (by decide) (by decide)).mono ?_; rintro e w3 ⟨⟨x, xa, xb, rfl⟩, M⟩; have Q3 := Seg.hid (D0.out.draw hb M); clear M; have EC := (qcells Q3.out.var).2.2.2.2.2.2.2.2.2.2; have wr8 : IntKind.i64.wrap (8 + x) = 8 + x := (by rw [IntKind.wrap_i64] <;> omega); try (go_wp2_with fail))
        refine hK.out _ _ EC (fun hHeld => ?_)
        clear hK K
        try simp only [Act.put, List.setIfInBounds_toArray, List.set_cons_zero, List.set_cons_succ]
        refine OuK.tke 5 (some 12) (.int .i64 (8 + x)) rfl rfl ?_
        try simp only [Act.put, List.setIfInBounds_toArray, List.set_cons_zero, List.set_cons_succ]
        refine OuK.tke 6 (some 13) (.bool (decide ((m' : Int) < 8 + x))) rfl rfl ?_
        try simp only [Act.put, List.setIfInBounds_toArray, List.set_cons_zero, List.set_cons_succ]
        refine OuK.done (by kernel_rfl) ?_
        try (go_wp2_with fail)
        go_meet
        exact ⟨_, rfl, fun h => by have := of_decide_eq_true h; omega, Q3.out⟩
      case rest =>
      obtain ⟨z, hv, hz, hQ⟩ := hcut
      subst hv
      have Q5 := Seg.hid hQ
      clear hQ HQ
      rename World => w5
      cases z with
      | false =>
        clear hz
        have QN := Seg.hid (Q5.out)
        have VAR := Seg.hid QN.out.var
        obtain ⟨t4, w4', o4⟩ := Qb.out CA.out QN.out
        dsimp only at t4 w4' o4
        have T4 := Seg.hid t4
        have W4 := Seg.hid w4'
        have O4 := Seg.hid o4
        clear t4 w4' o4
        have ON : Hid ((qv qq (.slice A5 m5 c5') (.slice A6 q.gps.length c6') (.slice (some ⟨g', 0, none⟩) m' cap')).all (·.oneCell') = true) := qv_one ⟨_, _, _, rfl⟩ ⟨_, _, _, rfl⟩ ⟨_, _, _, rfl⟩
        go_wp2_with (first | (refine wpList_load_row rfl 28 _ rfl gq rfl _ _ _ _ VAR.out Try.underlying28 rfl infoQ ?_) | (refine wpList_store_mid rfl 28 _ _ rfl (gq + 1) 0 (qv qq (.slice A5 m5 c5') (.slice A6 q.gps.length c6') (.slice (some ⟨g', 0, none⟩) m' cap')) rfl rfl T4.out infoQ ON.out ?_))
        exact bodyPost_ret (v := .agg (qv qq (.slice A5 m5 c5') (.slice A6 q.gps.length c6') (.slice (some ⟨g', 0, none⟩) m' cap'))) (results_cell_row rfl _ _ (gq + 1) _ _ _ _ rfl W4.out Try.underlying28 rfl infoQ) rfl (by first | exact ⟨qq, _, _, _, rfl, ⟨((k0, .slice Ap k0.steps.length cp) :: r'), O4.out.1⟩, O4.out.2⟩ | exact ⟨qq, _, _, _, ((k0, .slice Ap k0.steps.length cp) :: r'), rfl, O4.out.1, O4.out.2⟩)
      | true =>
        have hm9 : m' < 9 := hz rfl
        clear hz
        have H8 : m' = 1 ∨ m' = 2 ∨ m' = 3 ∨ m' = 4 ∨ m' = 5 ∨ m' = 6 ∨ m' = 7 ∨ m' = 8 := by have := HM.out.1; omega
        have hm0 : ¬ m' = 0 := by omega
        have D5 := Seg.hid (Q5.out.drew hb)
        go_upto_region 3 with fail
        refine OuK.start [21, 22, 23] (fun w' => w'.cell? ⟨gq, 10, none⟩ = some (.slice (some ⟨g', 0, none⟩) m' cap') ∧ w'.cell? ⟨g', 0, none⟩ = some (.int .i64 k0.kind) ∧ w'.cell? ⟨g', 1, none⟩ = some (.slice Ap k0.steps.length cp)) (by kernel_rfl) (Qb.sx3 D5.out) (fun hHeld => ?_)
        obtain ⟨w6, hw6⟩ : ∃ z, w5.drew = z := ⟨_, rfl⟩
        rw [hw6] at D5 hHeld ⊢
        clear hw6 Q5
        refine OuK.tke 0 (some 14) (.pointer (some ⟨gq, 10, none⟩)) rfl rfl ?_
        try simp only [Act.put, List.setIfInBounds_toArray, List.set_cons_zero, List.set_cons_succ]
        refine OuK.tke 1 (some 15) ((.slice (some ⟨g', 0, none⟩) m' cap')) rfl rfl ?_
        try simp only [Act.put, List.setIfInBounds_toArray, List.set_cons_zero, List.set_cons_succ]
        refine OuK.tke 2 (some 16) (.pointer (some ⟨gq, 10, none⟩)) rfl rfl ?_
        try simp only [Act.put, List.setIfInBounds_toArray, List.set_cons_zero, List.set_cons_succ]
        refine OuK.tke 3 (some 17) ((.slice (some ⟨g', 0, none⟩) m' cap')) rfl rfl ?_
        try simp only [Act.put, List.setIfInBounds_toArray, List.set_cons_zero, List.set_cons_succ]
        refine OuK.tke 4 (some 18) ((.pointer (some ⟨g', 0, none⟩))) rfl rfl ?_
        try simp only [Act.put, List.setIfInBounds_toArray, List.set_cons_zero, List.set_cons_succ]
        refine OuK.tke 5 (some 19) ((.pointer (some ⟨g', 0, none⟩))) rfl rfl ?_
        try simp only [Act.put, List.setIfInBounds_toArray, List.set_cons_zero, List.set_cons_succ]
        refine OuK.tke 6 (some 20) (.int .i64 k0.kind) rfl rfl ?_
        try simp only [Act.put, List.setIfInBounds_toArray, List.set_cons_zero, List.set_cons_succ]
        refine OuK.tke 7 (some 21) (.pointer (some ⟨gq, 10, none⟩)) rfl rfl ?_
        try simp only [Act.put, List.setIfInBounds_toArray, List.set_cons_zero, List.set_cons_succ]
        refine OuK.tke 8 (some 22) ((.slice (some ⟨g', 0, none⟩) m' cap')) rfl rfl ?_
        try simp only [Act.put, List.setIfInBounds_toArray, List.set_cons_zero, List.set_cons_succ]
        refine OuK.tke 9 (some 23) ((.pointer (some ⟨g', 0, none⟩))) rfl rfl ?_
        try simp only [Act.put, List.setIfInBounds_toArray, List.set_cons_zero, List.set_cons_succ]
        refine OuK.tke 10 (some 24) ((.pointer (some ⟨g', 1, none⟩))) rfl rfl ?_
        try simp only [Act.put, List.setIfInBounds_toArray, List.set_cons_zero, List.set_cons_succ]
        refine OuK.tke 11 (some 25) (.slice Ap k0.steps.length cp) rfl rfl ?_
        try simp only [Act.put, List.setIfInBounds_toArray, List.set_cons_zero, List.set_cons_succ]
        refine OuK.tke 12 (some 26) (.pointer (some ⟨gq, 10, none⟩)) rfl rfl ?_
        try simp only [Act.put, List.setIfInBounds_toArray, List.set_cons_zero, List.set_cons_succ]
        refine OuK.tke 13 (some 27) ((.slice (some ⟨g', 0, none⟩) m' cap')) rfl rfl ?_
        try simp only [Act.put, List.setIfInBounds_toArray, List.set_cons_zero, List.set_cons_succ]
        refine OuK.tke 14 (some 28) (.int .i64 (m' : Int)) rfl rfl ?_
        try simp only [Act.put, List.setIfInBounds_toArray, List.set_cons_zero, List.set_cons_succ]
        refine OuK.tke 15 (some 29) (.int .i64 (97 + (m' : Int))) rfl rfl ?_ (hy := by intro w hSw; rcases H8 with rfl | rfl | rfl | rfl | rfl | rfl | rfl | rfl <;> (go_simp <;> first | decide | rfl))
        try simp only [Act.put, List.setIfInBounds_toArray, List.set_cons_zero, List.set_cons_succ]
        refine OuK.tke 16 (some 30) (.int .i32 (97 + (m' : Int))) rfl rfl ?_ (hy := by intro w hSw; rcases H8 with rfl | rfl | rfl | rfl | rfl | rfl | rfl | rfl <;> (go_simp <;> first | decide | rfl))
        try simp only [Act.put, List.setIfInBounds_toArray, List.set_cons_zero, List.set_cons_succ]
        refine OuK.tke 17 (some 31) (.string (sv m')) rfl rfl ?_ (hy := by intro w hSw; rcases H8 with rfl | rfl | rfl | rfl | rfl | rfl | rfl | rfl <;> (go_simp <;> first | decide | rfl))
        try simp only [Act.put, List.setIfInBounds_toArray, List.set_cons_zero, List.set_cons_succ]
        refine OuK.tke 18 (some 32) (.string (gv m')) rfl rfl ?_ (hy := by intro w hSw; rcases H8 with rfl | rfl | rfl | rfl | rfl | rfl | rfl | rfl <;> (go_simp <;> first | decide | rfl))
        try simp only [Act.put, List.setIfInBounds_toArray, List.set_cons_zero, List.set_cons_succ]
        refine OuK.tke 19 (some 33) (.agg #[.int .i64 k0.kind, .slice Ap k0.steps.length cp, .string (gv m')]) rfl rfl ?_
        try simp only [Act.put, List.setIfInBounds_toArray, List.set_cons_zero, List.set_cons_succ]
        refine OuK.one 20 (by kernel_rfl) rfl (by decide) (fun K hK => ?_)
        go_simp
        have Q7 := Seg.hid (D5.out.alloc hb (.cells #[.int .i64 k0.kind, .slice Ap k0.steps.length cp, .string (gv m')] 35 (0, 0)))
        refine hK.out _ _ (Qb.sx3 Q7.out) (fun hHeld => ?_)
        clear hK K
        try simp only [Act.put, List.setIfInBounds_toArray, List.set_cons_zero, List.set_cons_succ]
        have hl6 : w.heap.size ≤ w6.heap.size := D5.out.o.lft.grown.size
        have hr : r'.length + 1 = m' := HM.out.1.symm
        have OW : Hid ((w6.alloc (.cells #[.int .i64 k0.kind, .slice Ap k0.steps.length cp, .string (gv m')] 35 (0, 0))).ownsRow w.heap.size 35 3 (.slice (some ⟨g', 0, none⟩) m' cap') m' (gcells ((k0, .slice Ap k0.steps.length cp) :: r'))) := by
          have h := Q7.out.o.gets
          show World.ownsRow _ _ _ _ _ _ _
          rw [← hr]
          rw [← hr] at h
          exact h
        refine OuK.oneX 21 (by kernel_rfl) rfl (by decide) (fun K hK => ?_)
        refine step_append_lies _ (by rfl) _ _ 26 (by rfl) w.heap.size 35 iG _ 3 48 Try.underlying26 hiG hgz0 hgz1 hgz2 rfl (by decide) (.slice (some ⟨g', 0, none⟩) m' cap') m' (gcells ((k0, .slice Ap k0.steps.length cp) :: r')) (by rfl) OW.out ⟨w6.heap.size, 0, none⟩ 1 1 [.int .i64 k0.kind, .slice Ap k0.steps.length cp, .string (gv m')] (by rfl) (by rfl) (World.news_of_block (cs := #[.int .i64 k0.kind, .slice Ap k0.steps.length cp, .string (gv m')]) (heap_alloc_new w6 _)) (by simp [Value.oneCell']) (by decide) (by unfold maxLen; omega) (by omega) (by rw [hsz]; omega) (w6.heap.size + 1) (hsz w6 _) ?_
        intro g9 cap9 w9 hown9 gr9 hat9 hlt9
        have P9 := Seg.hid (Qb.pushP (p := (⟨k0.kind, k0.steps, gv m'⟩, .slice Ap k0.steps.length cp)) CA.out Q7.out (by rw [List.length_cons, hr]; exact hown9) gr9 (by rw [List.length_cons, hr]; omega) (Q7.out.o.el (k0, .slice Ap k0.steps.length cp) (List.mem_cons_self ..)) ⟨gv_size m', (Q7.out.o.sz.gets.2 (k0, .slice Ap k0.steps.length cp) (List.mem_cons_self ..)).2⟩)
        clear hown9 gr9 hat9 hlt9
        have hf := qfroz P9.out.1
        obtain ⟨_, _, _, _, _, _, _, _, _, _, d10⟩ := qcells P9.out.1
        refine hK.out _ _ ?_
        clear hK K
        try simp only [Act.put, List.setIfInBounds_toArray]
        refine OuK.oneX 22 (by kernel_rfl) rfl (by decide) (fun K hK => ?_)
        go_simp
        refine hK.out _ _ ?_
        clear hK K
        try simp only [Act.put, List.setIfInBounds_toArray]
        refine OuK.oneX 23 (by kernel_rfl) rfl (by decide) (fun K hK => ?_)
        go_simp
        refine hK.out _ _ ?_
        clear hK K
        try simp only [Act.put, List.setIfInBounds_toArray]
        refine OuK.done (by kernel_rfl) ?_
        have C9 := Seg.hid (qcells P9.out.2.var).2.2.2.2.2.2.2.2.2.2
        try (go_wp2_with fail)
        go_roundw
        case rel => exact ⟨_, g9, cap9, m' + 1, r' ++ [(⟨k0.kind, k0.steps, gv m'⟩, .slice Ap k0.steps.length cp)], Seg.hid ⟨by rw [List.length_append, ← hr]; rfl, by omega⟩, Seg.hid P9.out.2⟩
        case measure => rw [C9.out, E0.out.1]; dsimp only; omega
end Go.Proofs.Ytkohhcjpjloaaaa.DwB
