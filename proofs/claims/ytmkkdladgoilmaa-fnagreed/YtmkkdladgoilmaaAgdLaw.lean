/- The law that both sides agree alike, out of the contracts. -/
import Derived.Test.YtmkkdladgoilmaaDrAg
import Derived.Test.YtmkkdladgoilmaaAgQ
import Derived.Test.YtmkkdladgoilmaaLawH
import Derived.BigQuiet
namespace Go.Proofs.Ytmkkdladgoilmaa.AgdLaw
set_option maxRecDepth 8000
open Go.RowKit
open Ls Lp AgP AgI AgS AgQ
open Draw (Cur Lft Bytes)
open Recs (hsz below1 below2 chain)
set_option linter.unusedVariables false
theorem sz_few : ∀ l : List Apx, szL szApx l ≤ 1048576 ↔ l.length ≤ 1048576 := fun l => by
  have : ∀ l : List Apx, tot szApx l = 0 := fun l => by
    induction l with
    | nil => rfl
    | cons a r ih => simp only [tot, ih, szApx]
  unfold szL
  rw [this]
  omega
/-- A list that lies, kept. -/
theorem lat_next {w w' : World} {v : Value} {l : List Apx} (h : LAt 3 EApx w (fun g => g < w.heap.size) v l) (b : Below w.heap.size w w') : LAt 3 EApx w' (fun g => g < w'.heap.size) v l :=
  LAt.mono growsApx (LAt.below keepsApx h b (fun g hg => hg)) (fun g hg => Nat.lt_of_lt_of_le hg b.size)
theorem own_at {w w' : World} {v : Value} {l : List Apx} (h : Ow.ApxsOwn w' (seg w.heap.size w'.heap.size) v l) : LAt 3 EApx w' (fun g => g < w'.heap.size) v l :=
  LAt.mono growsApx (Ow.LOwn.lat growsApx Ow.atOApx h) (fun g hg => hg.2)
/-- One Api in a row of its own. -/
theorem one_lat (w : World) (g : Nat) (a : Apx) (h : w.heap[g]? = some (.cells #[.int .i64 a.key, .int .i64 a.least, .int .i64 a.most] 38 (0, 0))) : LAt 3 EApx w (fun g => g < w.heap.size) (.slice (some ⟨g, 0, none⟩) 1 1) [a] := by
  refine ⟨by simp, _, 1, rfl, .inr ⟨g, 0, fun i j => [Value.int .i64 a.key, .int .i64 a.least, .int .i64 a.most].getD j default, rfl, (Array.getElem?_eq_some_iff.1 h).1, Nat.le_refl _, fun i hi j hj => ?_, fun i hi => ?_⟩⟩
  · have : i = 0 := by simp at hi; omega
    subst this
    rw [cell_of_row w g _ _ _ (0, 0) h]
    match j, hj with
    | 0, _ => rfl
    | 1, _ => rfl
    | 2, _ => rfl
  · have : i = 0 := by simp at hi; omega
    subst this
    exact ⟨rfl, rfl, rfl⟩
theorem toy : agOk [⟨1, 0, 3⟩] [⟨1, 2, 9⟩] = true ∧ agree [⟨1, 0, 3⟩] [⟨1, 2, 9⟩] = [⟨1, 3, 3⟩] := ⟨rfl, rfl⟩
/-- The fixed lists, agreed on by the program. -/
theorem toy_any (w : World) : Calls Try.prog 11 #[.slice (some ⟨w.heap.size, 0, none⟩) 1 1, .slice (some ⟨w.heap.size + 1, 0, none⟩) 1 1] ((w.alloc (.cells #[.int .i64 1, .int .i64 0, .int .i64 3] 38 (0, 0))).alloc (.cells #[.int .i64 1, .int .i64 2, .int .i64 9] 38 (0, 0))) fun e w' => ∃ g o c, e = .returned (.tuple #[.slice (some ⟨g, o, none⟩) 1 c, .bool true]) ∧ w'.cell? ⟨g, o + 2, none⟩ = some (.int .i64 3) ∧ g < w'.heap.size ∧ Below w.heap.size w w' := by
  have h0 : ((w.alloc (.cells #[.int .i64 1, .int .i64 0, .int .i64 3] 38 (0, 0))).alloc (.cells #[.int .i64 1, .int .i64 2, .int .i64 9] 38 (0, 0))).heap[w.heap.size]? = some (.cells #[.int .i64 1, .int .i64 0, .int .i64 3] 38 (0, 0)) := by
    rw [(below1 (w.alloc (.cells #[.int .i64 1, .int .i64 0, .int .i64 3] 38 (0, 0))) _).block _ (by rw [hsz]; omega)]
    exact heap_alloc_new _ _
  have h1 : ((w.alloc (.cells #[.int .i64 1, .int .i64 0, .int .i64 3] 38 (0, 0))).alloc (.cells #[.int .i64 1, .int .i64 2, .int .i64 9] 38 (0, 0))).heap[w.heap.size + 1]? = some (.cells #[.int .i64 1, .int .i64 2, .int .i64 9] 38 (0, 0)) := by
    have := heap_alloc_new (w.alloc (.cells #[.int .i64 1, .int .i64 0, .int .i64 3] 38 (0, 0))) (.cells #[.int .i64 1, .int .i64 2, .int .i64 9] 38 (0, 0))
    rwa [hsz] at this
  have b2 := below2 w (.cells #[.int .i64 1, .int .i64 0, .int .i64 3] 38 (0, 0)) (.cells #[.int .i64 1, .int .i64 2, .int .i64 9] 38 (0, 0))
  generalize (w.alloc (.cells #[.int .i64 1, .int .i64 0, .int .i64 3] 38 (0, 0))).alloc (.cells #[.int .i64 1, .int .i64 2, .int .i64 9] 38 (0, 0)) = w2 at *
  refine (AgI.impl_any _ _ [⟨1, 0, 3⟩] [⟨1, 2, 9⟩] w2 _ (one_lat w2 w.heap.size ⟨1, 0, 3⟩ h0) (one_lat w2 (w.heap.size + 1) ⟨1, 2, 9⟩ h1) (fun g hg => hg) ((sz_few _).2 (by simp)) ((sz_few _).2 (by simp))).mono ?_
  rintro e w' ⟨r, rfl, ho, b⟩
  rw [toy.1]
  rw [toy.2] at ho
  obtain ⟨A, c, g, o, F, rfl, OZ, _⟩ := opn (own_at ho) (fun g hg => hg)
  obtain ⟨ea, _, hg⟩ := OZ.addr.resolve_left (by simp)
  subst ea
  obtain ⟨_, _, z2⟩ := apx_cells (i := 0) (fun j hj => OZ.cells 0 (by simp) j hj) (OZ.el 0 (by simp))
  exact ⟨g, o, c, rfl, by simpa using z2, hg, chain b2 b⟩
set_option maxHeartbeats 800000 in
theorem walk_big (A : Option Addr) (n c : Nat) (w : World) (hb : 1048576 < n) :
    Calls Try.prog 4 #[.slice A n c] w fun e w' => e = .returned (.bool true) ∧ Below w.heap.size w w' := by
  have hd : decide (1048576 < (n : Int)) = true := decide_eq_true (by omega)
  go_enter Try.func4, Try.ntmps4
  go_wp2
  go_ret
  exact ⟨rfl, Below.refl _ _⟩
set_option maxHeartbeats 6400000 in
theorem walk (A : Option Addr) (n c : Nat) (w : World) (hn : n ≤ 1048576) (hb : Bytes w w.heap.size A n c) :
    Calls Try.prog 4 #[.slice A n c] w fun e w' => e = .returned (.bool true) ∧ Below w.heap.size w w' := by
  have HB := Seg.hid hb
  clear hb
  have hd : decide (1048576 < (n : Int)) = false := decide_eq_false (by omega)
  have CG : Hid (∀ wx, Calls Try.prog 5 #[.slice A n c] wx fun e w' => e = .returned (.bool false) ∧ wx = w') := fun wx => by have := LawH.big_any A n c wx (by omega); rw [hd] at this; exact this
  clear hd
  go_enter Try.func4, Try.ntmps4
  go_upto_region 3 with (go_at_call 5; refine (CG.out _).mono ?_; rintro e w' ⟨rfl, rfl⟩)
  go_wp2_with fail
  refine (DrAg.draw_any A n c w hn HB.out).mono ?_
  rintro e w1 ⟨v1, v2, ps, qs, rfl, la, lb, h1, h2, b1⟩
  have HA1 := Seg.hid h1
  have HB1 := Seg.hid h2
  have B1 := Seg.hid b1
  clear h1 h2 b1
  go_wp2_with fail
  refine (AgI.impl_any v1 v2 ps qs w1 _ HA1.out HB1.out (fun g hg => hg) ((sz_few ps).2 (by omega)) ((sz_few qs).2 (by omega))).mono ?_
  rintro e w2 ⟨x, rfl, hx, b2⟩
  have HX2 := Seg.hid (own_at hx)
  have HA2 := Seg.hid (lat_next HA1.out b2)
  have HB2 := Seg.hid (lat_next HB1.out b2)
  have B2 := Seg.hid (chain B1.out b2)
  clear hx b2 HA1 HB1 B1
  go_wp2_with fail
  refine (AgI.impl_any v2 v1 qs ps w2 _ HB2.out HA2.out (fun g hg => hg) ((sz_few qs).2 (by omega)) ((sz_few ps).2 (by omega))).mono ?_
  rintro e w3 ⟨y, rfl, hy, b3⟩
  rw [agree_comm] at hy
  have HY3 := Seg.hid (own_at hy)
  have HX3 := Seg.hid (lat_next HX2.out b3)
  have HA3 := Seg.hid (lat_next HA2.out b3)
  have HB3 := Seg.hid (lat_next HB2.out b3)
  have B3 := Seg.hid (chain B2.out b3)
  clear hy b3 HA2 HB2 B2 HX2
  rw [ok_comm]
  go_wp2_with fail
  refine (AgS.spec_any v1 v2 ps qs w3 _ HA3.out HB3.out (fun g hg => hg) ((sz_few ps).2 (by omega)) ((sz_few qs).2 (by omega))).mono ?_
  rintro e w4 ⟨z, rfl, hz, b4⟩
  have HY4 := Seg.hid (lat_next HY3.out b4)
  have HX4 := Seg.hid (lat_next HX3.out b4)
  have HA4 := Seg.hid (lat_next HA3.out b4)
  have B4 := Seg.hid (chain B3.out b4)
  clear hz b4 HA3 HB3 B3 HX3 HY3
  have IN : Hid (∀ k, k < (agree ps qs).length → ((agree ps qs).getD k default).least = ((agree ps qs).getD k default).most ∧ ∀ j, j < ps.length → (ps.getD j default).key = ((agree ps qs).getD k default).key → (ps.getD j default).least ≤ ((agree ps qs).getD k default).most ∧ ((agree ps qs).getD k default).most ≤ (ps.getD j default).most) := fun k hk => by
    have hm : (agree ps qs).getD k default ∈ agree ps qs := by rw [List.getD_eq_getElem?_getD, List.getElem?_eq_getElem hk]; exact List.getElem_mem hk
    obtain ⟨q1, q2⟩ := agree_in ps qs hm
    refine ⟨q1, fun j hj e => q2 _ ?_ e⟩
    rw [List.getD_eq_getElem?_getD, List.getElem?_eq_getElem hj]; exact List.getElem_mem hj
  have hle := agree_le ps qs
  generalize agree ps qs = xs at *
  generalize agOk ps qs = fl at *
  obtain ⟨Aa, ca, ga, oa, Fa, rfl, OA, na⟩ := opn HA4.out (fun g hg => hg)
  obtain ⟨Ax, cx, gx, ox, Fx, rfl, OX, nx⟩ := opn HX4.out (fun g hg => hg)
  obtain ⟨Ay, cy, gy, oy, Fy, rfl, OY, ny⟩ := opn HY4.out (fun g hg => hg)
  have PA := Seg.hid OA
  have PX := Seg.hid OX
  have PY := Seg.hid OY
  clear OA OX OY HA4 HX4 HY4
  cases fl
  · skip
    go_wp2_with fail
    go_loopw [11] (fun i wr => ∃ (k : Nat), k ≤ xs.length ∧ i = .int .i64 k ∧ Hid (Qt w4 wr)) (fun i _ => xs.length - (intOf i).toNat)
    case atStart => exact ⟨0, Nat.zero_le _, rfl, Qt.refl _⟩
    case round =>
      obtain ⟨k, hk, rfl, HQ⟩ := hrel
      by_cases hlt : k < xs.length
      · obtain ⟨ex, hcx, hgx⟩ := PX.out.addr.resolve_left (by omega)
        obtain ⟨ey, hcy, hgy⟩ := PY.out.addr.resolve_left (by omega)
        obtain ⟨x0, x1, x2⟩ := apx_cells (i := k) (fun j hj => PX.out.cells k hlt j hj) (PX.out.el k hlt)
        obtain ⟨y0, y1, y2⟩ := apx_cells (i := k) (fun j hj => PY.out.cells k hlt j hj) (PY.out.el k hlt)
        obtain ⟨q1, q2⟩ := IN.out k hlt
        have Q2 := Seg.hid q2
        clear q2
        generalize xs.getD k default = tk at *
        subst ex
        subst ey
        have XC : Hid (∀ wx, Qt w4 wx → wx.cell? ⟨gx, ox + k * 3, none⟩ = some (.int .i64 tk.key) ∧ wx.cell? ⟨gx, ox + k * 3 + 1, none⟩ = some (.int .i64 tk.least) ∧ wx.cell? ⟨gx, ox + k * 3 + 2, none⟩ = some (.int .i64 tk.most)) := fun wx q => ⟨(q.cell _).trans x0, (q.cell _).trans x1, (q.cell _).trans x2⟩
        have YC : Hid (∀ wx, Qt w4 wx → wx.cell? ⟨gy, oy + k * 3, none⟩ = some (.int .i64 tk.key) ∧ wx.cell? ⟨gy, oy + k * 3 + 1, none⟩ = some (.int .i64 tk.least) ∧ wx.cell? ⟨gy, oy + k * 3 + 2, none⟩ = some (.int .i64 tk.most)) := fun wx q => ⟨(q.cell _).trans y0, (q.cell _).trans y1, (q.cell _).trans y2⟩
        clear x0 x1 x2 y0 y1 y2
        obtain ⟨x0, x1, x2⟩ := XC.out wr HQ.out
        obtain ⟨y0, y1, y2⟩ := YC.out wr HQ.out
        have n0 : (0 : Int) ≤ (k : Int) := by omega
        have n1 : (k : Int) < (xs.length : Int) := by omega
        have lx : gx < wr.heap.size := by rw [HQ.out.heap]; exact hgx
        have ly : gy < wr.heap.size := by rw [HQ.out.heap]; exact hgy
        have p1 : (tk.least != tk.most) = false := by simp [q1]
        have p2 : (tk.least == tk.most) = true := by simp [q1]
        have Q1 := Seg.hid q1
        clear q1
        go_upto_region 12 with fail
        go_quiet (fail)
        obtain ⟨wo, hwo⟩ : ∃ wo, wr.drewN nq = wo := ⟨_, rfl⟩
        rw [hwo]
        have QO : Hid (Qt w4 wo) := by show Qt _ _; rw [← hwo]; exact HQ.out.drewN nq
        clear hwo HQ x0 x1 x2 y0 y1 y2 lx ly p1 p2
        go_wp2_with fail
        go_loopw [12] (fun i wi => ∃ (j : Nat), j ≤ ps.length ∧ i = .int .i64 j ∧ Hid (Qt w4 wi)) (fun i _ => ps.length - (intOf i).toNat)
        case atStart => exact ⟨0, Nat.zero_le _, rfl, QO.out⟩
        case round =>
          clear QO
          rename_i wi0
          obtain ⟨j, hj, rfl, HI⟩ := hrel
          obtain ⟨wi, hwi⟩ : ∃ wi, wi = wr := ⟨wr, rfl⟩
          subst hwi
          by_cases hlj : j < ps.length
          · obtain ⟨ea, hca, hga⟩ := PA.out.addr.resolve_left (by omega)
            obtain ⟨a0, a1, a2⟩ := apx_cells (i := j) (fun i hi => PA.out.cells j hlj i hi) (PA.out.el j hlj)
            have Q3 := Seg.hid (Q2.out j hlj)
            generalize ps.getD j default = tj at *
            subst ea
            have a0' := (HI.out.cell _).trans a0
            have a1' := (HI.out.cell _).trans a1
            have a2' := (HI.out.cell _).trans a2
            obtain ⟨x0, x1, x2⟩ := XC.out _ HI.out
            clear a0 a1 a2
            have n2 : (0 : Int) ≤ (j : Int) := by omega
            have n3 : (j : Int) < (ps.length : Int) := by omega
            have lx : gx < wi.heap.size := by rw [HI.out.heap]; exact hgx
            have ly : ga < wi.heap.size := by rw [HI.out.heap]; exact hga
            by_cases hke : tj.key = tk.key
            · have Q4 := Q3.out hke
              have r1 : (tj.key == tk.key) = true := by simp [hke]
              have r2 : decide (tj.most < tk.most) = false := decide_eq_false (by omega)
              have r3 : decide (tk.most < tj.least) = false := decide_eq_false (by omega)
              have r4 : ¬ tj.most < tk.most := by omega
              have r5 : ¬ tk.most < tj.least := by omega
              clear hke Q4 Q3
              go_upto_region 17 with fail
              go_quiet (fail)
              have QN := Seg.hid (HI.out.drewN nq)
              clear HI a0' a1' a2' x0 x1 x2 r1 r2 r3 r4 r5
              go_wp2_with fail
              go_roundw
              case rel => exact ⟨j + 1, by omega, by go_num, QN.out⟩
              case measure => simp [intOf]; omega
            · have r1 : (tj.key == tk.key) = false := by simp [hke]
              clear hke Q3
              go_upto_region 17 with fail
              go_quiet (fail)
              have QN := Seg.hid (HI.out.drewN nq)
              clear HI a0' a1' a2' x0 x1 x2 r1
              go_wp2_with fail
              go_roundw
              case rel => exact ⟨j + 1, by omega, by go_num, QN.out⟩
              case measure => simp [intOf]; omega
          · go_wp2_with fail
            go_roundw
            case rel => exact ⟨k + 1, by omega, by go_num, HI.out⟩
            case measure => simp [intOf]; omega
      · go_upto_region 19 with fail
        have CT := Seg.hid (toy_any wr)
        have BW := Seg.hid (chain B4.out (HQ.out.bel w4.heap.size))
        clear HQ PA PX PY IN
        go_upto_region 20 with (first | (go_at_call 11; refine CT.out.mono ?_; rintro e w9 ⟨gz, oz, cz, rfl, z2, lz, b9⟩; have Z2 := Seg.hid z2; have B9 := Seg.hid b9; clear z2 b9))
        have z2 := Z2.out
        go_wp2_with fail
        go_ret
        exact ⟨rfl, chain BW.out B9.out⟩
  · skip
    go_wp2_with fail
    go_loopw [11] (fun i wr => ∃ (k : Nat), k ≤ xs.length ∧ i = .int .i64 k ∧ Hid (Qt w4 wr)) (fun i _ => xs.length - (intOf i).toNat)
    case atStart => exact ⟨0, Nat.zero_le _, rfl, Qt.refl _⟩
    case round =>
      obtain ⟨k, hk, rfl, HQ⟩ := hrel
      by_cases hlt : k < xs.length
      · obtain ⟨ex, hcx, hgx⟩ := PX.out.addr.resolve_left (by omega)
        obtain ⟨ey, hcy, hgy⟩ := PY.out.addr.resolve_left (by omega)
        obtain ⟨x0, x1, x2⟩ := apx_cells (i := k) (fun j hj => PX.out.cells k hlt j hj) (PX.out.el k hlt)
        obtain ⟨y0, y1, y2⟩ := apx_cells (i := k) (fun j hj => PY.out.cells k hlt j hj) (PY.out.el k hlt)
        obtain ⟨q1, q2⟩ := IN.out k hlt
        have Q2 := Seg.hid q2
        clear q2
        generalize xs.getD k default = tk at *
        subst ex
        subst ey
        have XC : Hid (∀ wx, Qt w4 wx → wx.cell? ⟨gx, ox + k * 3, none⟩ = some (.int .i64 tk.key) ∧ wx.cell? ⟨gx, ox + k * 3 + 1, none⟩ = some (.int .i64 tk.least) ∧ wx.cell? ⟨gx, ox + k * 3 + 2, none⟩ = some (.int .i64 tk.most)) := fun wx q => ⟨(q.cell _).trans x0, (q.cell _).trans x1, (q.cell _).trans x2⟩
        have YC : Hid (∀ wx, Qt w4 wx → wx.cell? ⟨gy, oy + k * 3, none⟩ = some (.int .i64 tk.key) ∧ wx.cell? ⟨gy, oy + k * 3 + 1, none⟩ = some (.int .i64 tk.least) ∧ wx.cell? ⟨gy, oy + k * 3 + 2, none⟩ = some (.int .i64 tk.most)) := fun wx q => ⟨(q.cell _).trans y0, (q.cell _).trans y1, (q.cell _).trans y2⟩
        clear x0 x1 x2 y0 y1 y2
        obtain ⟨x0, x1, x2⟩ := XC.out wr HQ.out
        obtain ⟨y0, y1, y2⟩ := YC.out wr HQ.out
        have n0 : (0 : Int) ≤ (k : Int) := by omega
        have n1 : (k : Int) < (xs.length : Int) := by omega
        have lx : gx < wr.heap.size := by rw [HQ.out.heap]; exact hgx
        have ly : gy < wr.heap.size := by rw [HQ.out.heap]; exact hgy
        have p1 : (tk.least != tk.most) = false := by simp [q1]
        have p2 : (tk.least == tk.most) = true := by simp [q1]
        have Q1 := Seg.hid q1
        clear q1
        go_upto_region 12 with fail
        go_quiet (fail)
        obtain ⟨wo, hwo⟩ : ∃ wo, wr.drewN nq = wo := ⟨_, rfl⟩
        rw [hwo]
        have QO : Hid (Qt w4 wo) := by show Qt _ _; rw [← hwo]; exact HQ.out.drewN nq
        clear hwo HQ x0 x1 x2 y0 y1 y2 lx ly p1 p2
        go_wp2_with fail
        go_loopw [12] (fun i wi => ∃ (j : Nat), j ≤ ps.length ∧ i = .int .i64 j ∧ Hid (Qt w4 wi)) (fun i _ => ps.length - (intOf i).toNat)
        case atStart => exact ⟨0, Nat.zero_le _, rfl, QO.out⟩
        case round =>
          clear QO
          rename_i wi0
          obtain ⟨j, hj, rfl, HI⟩ := hrel
          obtain ⟨wi, hwi⟩ : ∃ wi, wi = wr := ⟨wr, rfl⟩
          subst hwi
          by_cases hlj : j < ps.length
          · obtain ⟨ea, hca, hga⟩ := PA.out.addr.resolve_left (by omega)
            obtain ⟨a0, a1, a2⟩ := apx_cells (i := j) (fun i hi => PA.out.cells j hlj i hi) (PA.out.el j hlj)
            have Q3 := Seg.hid (Q2.out j hlj)
            generalize ps.getD j default = tj at *
            subst ea
            have a0' := (HI.out.cell _).trans a0
            have a1' := (HI.out.cell _).trans a1
            have a2' := (HI.out.cell _).trans a2
            obtain ⟨x0, x1, x2⟩ := XC.out _ HI.out
            clear a0 a1 a2
            have n2 : (0 : Int) ≤ (j : Int) := by omega
            have n3 : (j : Int) < (ps.length : Int) := by omega
            have lx : gx < wi.heap.size := by rw [HI.out.heap]; exact hgx
            have ly : ga < wi.heap.size := by rw [HI.out.heap]; exact hga
            by_cases hke : tj.key = tk.key
            · have Q4 := Q3.out hke
              have r1 : (tj.key == tk.key) = true := by simp [hke]
              have r2 : decide (tj.most < tk.most) = false := decide_eq_false (by omega)
              have r3 : decide (tk.most < tj.least) = false := decide_eq_false (by omega)
              have r4 : ¬ tj.most < tk.most := by omega
              have r5 : ¬ tk.most < tj.least := by omega
              clear hke Q4 Q3
              go_upto_region 17 with fail
              go_quiet (fail)
              have QN := Seg.hid (HI.out.drewN nq)
              clear HI a0' a1' a2' x0 x1 x2 r1 r2 r3 r4 r5
              go_wp2_with fail
              go_roundw
              case rel => exact ⟨j + 1, by omega, by go_num, QN.out⟩
              case measure => simp [intOf]; omega
            · have r1 : (tj.key == tk.key) = false := by simp [hke]
              clear hke Q3
              go_upto_region 17 with fail
              go_quiet (fail)
              have QN := Seg.hid (HI.out.drewN nq)
              clear HI a0' a1' a2' x0 x1 x2 r1
              go_wp2_with fail
              go_roundw
              case rel => exact ⟨j + 1, by omega, by go_num, QN.out⟩
              case measure => simp [intOf]; omega
          · go_wp2_with fail
            go_roundw
            case rel => exact ⟨k + 1, by omega, by go_num, HI.out⟩
            case measure => simp [intOf]; omega
      · go_upto_region 19 with fail
        have CT := Seg.hid (toy_any wr)
        have BW := Seg.hid (chain B4.out (HQ.out.bel w4.heap.size))
        clear HQ PA PX PY IN
        go_upto_region 20 with (first | (go_at_call 11; refine CT.out.mono ?_; rintro e w9 ⟨gz, oz, cz, rfl, z2, lz, b9⟩; have Z2 := Seg.hid z2; have B9 := Seg.hid b9; clear z2 b9))
        have z2 := Z2.out
        go_wp2_with fail
        go_ret
        exact ⟨rfl, chain BW.out B9.out⟩
theorem walk_any (A : Option Addr) (len cap : Nat) (zs : List Int) (w : World)
    (h : (A = none ∧ len = 0 ∧ cap = 0 ∧ zs = []) ∨ ∃ x, A = some x ∧ len ≤ cap ∧ cap ≤ maxLen ∧ zs.length = cap ∧ (∀ i, i < zs.length → w.cell? (x.add i) = some (.int .u8 (zs.getD i 0))) ∧ ∀ n ∈ zs, (Lit.int .u8 n).wf = true) :
    Calls Try.prog 4 #[.slice A len cap] w fun e w' => e = .returned (.bool true) ∧ Below w.heap.size w w' := by
  by_cases hb : 1048576 < len
  · exact walk_big A len cap w hb
  · exact walk A len cap w (by omega) (LawH.row_bytes w A len cap zs h (by omega))
end Go.Proofs.Ytmkkdladgoilmaa.AgdLaw
