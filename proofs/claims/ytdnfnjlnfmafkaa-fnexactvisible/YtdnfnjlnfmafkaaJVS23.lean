/- The program's isGone: a search by a function. -/
import Derived.Test.YtdnfnjlnfmafkaaJVS13
import Derived.Test.YtdnfnjlnfmafkaaJVS21
import Derived.Test.YtdnfnjlnfmafkaaJVS22
namespace Go.Proofs.Ytdnfnjlnfmafkaa.VsG
set_option maxRecDepth 8000
open Go.RowKit
open Ls VsP SdQ
open Recs (hsz below1 below2 chain chainD Bat)
open Lp (Opn opn)
set_option linter.unusedVariables false
theorem gon_cells {w : World} {S : Nat → Prop} {g o i : Nat} {u : Gon} {F : Nat → Value} (h : ∀ j, j < 3 → w.cell? ⟨g, o + i * 3 + j, none⟩ = some (F j)) (he : EGon w S F u) : w.cell? ⟨g, o + i * 3, none⟩ = some (.int .i64 u.producer) ∧ w.cell? ⟨g, o + i * 3 + 1, none⟩ = some (.int .i64 u.first) ∧ w.cell? ⟨g, o + i * 3 + 2, none⟩ = some (.int .i64 u.last) := by
  obtain ⟨y0, y1, y2⟩ := he
  exact ⟨by rw [← y0]; exact h 0 (by omega), by rw [← y1]; exact h 1 (by omega), by rw [← y2]; exact h 2 (by omega)⟩
theorem ask_any (b : Bat) (A : Option Addr) (c bx : Nat) (u : Gon) (w : World) (hx : w.heap[bx]? = some (.cells #[.int .i64 b.base, .int .i64 b.epoch, .int .i64 b.producer, .int .i64 b.turn, .int .i64 b.seq, .int .i64 b.flags, .slice A b.recs.length c] 48 (0, 0))) :
    Calls Try.prog 48 #[.agg #[.int .i64 u.producer, .int .i64 u.first, .int .i64 u.last], .pointer (some ⟨bx, 0, none⟩)] w fun e w' => e = .returned (.bool (hit b u)) ∧ Below w.heap.size w w' := by
  have p0 : w.cell? ⟨bx, 0, none⟩ = some (.int .i64 b.base) := cell_of_row w bx 0 _ _ (0, 0) hx
  have p2 : w.cell? ⟨bx, 2, none⟩ = some (.int .i64 b.producer) := cell_of_row w bx 2 _ _ (0, 0) hx
  have hb : bx < w.heap.size := (Array.getElem?_eq_some_iff.1 hx).1
  clear hx
  by_cases hp : u.producer = b.producer
  · have hpe : (u.producer == b.producer) = true := by simp [hp]
    have Z : Hid (hit b u = (decide (u.first ≤ b.base) && decide (b.base ≤ u.last))) := by show _ = _; simp [hit, hp]
    clear hp
    go_enter Try.func48, Try.ntmps48
    go_wp2_with (go_at_call 21; refine (InB.within_b b.base u.first u.last _ rfl _).mono ?_; rintro e w1 ⟨rfl, rfl⟩)
    go_ret
    exact ⟨by rw [Z.out]; rfl, below1 _ _⟩
  · have hpe : (u.producer == b.producer) = false := by simp [hp]
    have Z : Hid (hit b u = false) := by show _ = _; simp [hit, hp]
    clear hp
    go_enter Try.func48, Try.ntmps48
    go_wp2
    go_ret
    exact ⟨by rw [Z.out]; rfl, below1 _ _⟩
set_option maxHeartbeats 1600000 in
theorem index_any (b : Bat) (A : Option Addr) (c bx : Nat) (Ag : Option Addr) (cg : Nat) (l : List Gon) (g o : Nat) (F : Nat → Nat → Value) (w : World) (S : Nat → Prop) (hS : ∀ g, S g → g < w.heap.size) (O : Opn 3 EGon w S Ag cg l g o F) (hn : l.length ≤ 1048576) (hx : w.heap[bx]? = some (.cells #[.int .i64 b.base, .int .i64 b.epoch, .int .i64 b.producer, .int .i64 b.turn, .int .i64 b.seq, .int .i64 b.flags, .slice A b.recs.length c] 48 (0, 0))) :
    Calls Try.prog 64 #[.slice Ag l.length cg, .func (.func 48) #[] #[.pointer (some ⟨bx, 0, none⟩)]] w fun e w' => ∃ q : Int, e = .returned (.int .i64 q) ∧ decide (0 ≤ q) = l.any (hit b) ∧ Below w.heap.size w w' := by
  have HA := Seg.hid O
  have HX := Seg.hid hx
  have hbx : bx < w.heap.size := (Array.getElem?_eq_some_iff.1 hx).1
  clear O hx
  go_enter Try.func64, Try.ntmps64
  go_wp2_with fail
  go_loopw [8] (fun i wr => ∃ (k : Nat), k ≤ l.length ∧ i = .int .i64 k ∧ Hid ((l.take k).any (hit b) = false ∧ Below w.heap.size w wr)) (fun i _ => l.length - (intOf i).toNat)
  case atStart => exact ⟨0, Nat.zero_le _, rfl, rfl, Below.refl _ _⟩
  case round =>
    obtain ⟨k, hk, rfl, HR⟩ := hrel
    by_cases hlt : k < l.length
    · obtain ⟨ea, hc, hga⟩ := HA.out.addr.resolve_left (by omega)
      have OL := HA.out.later keepsGon hS HR.out.2
      obtain ⟨e0, e1, e2⟩ := gon_cells (i := k) (fun j hj => OL.cells k (by omega) j hj) (OL.el k (by omega))
      have TK : Hid (l.take (k + 1) = l.take k ++ [l.getD k default]) := by
        show _ = _
        rw [List.take_add_one, List.getElem?_eq_getElem hlt]
        simp [hlt]
      have TM : Hid (∀ x, (l.take (k + 1)).any x = true → l.any x = true) := fun x hx => by
        simp only [List.any_eq_true] at hx ⊢
        obtain ⟨y, h1, h2⟩ := hx
        exact ⟨y, List.mem_of_mem_take h1, h2⟩
      have h0 : (0 : Int) ≤ (k : Int) := by omega
      have h1 : (k : Int) < (l.length : Int) := by omega
      have hgr : g < wr.heap.size := Nat.lt_of_lt_of_le hga HR.out.2.size
      have XR := Seg.hid ((HR.out.2.block bx hbx).trans HX.out)
      clear OL
      generalize l.getD k default = r at *
      subst ea
      go_wp2_with fail
      refine (ask_any b A c bx r wr XR.out).mono ?_
      rintro e w8 ⟨rfl, b8⟩
      have B8 := Seg.hid (chain HR.out.2 b8)
      clear b8
      cases hq : hit b r with
      | true =>
        have Z : Hid (l.any (hit b) = true) := TM.out _ (by rw [TK.out]; simp [hq])
        clear hq
        go_wp2
        go_ret
        exact ⟨_, rfl, by rw [Z.out]; simp, B8.out⟩
      | false =>
        have Z : Hid ((l.take (k + 1)).any (hit b) = false) := by show _ = _; rw [TK.out, List.any_append, HR.out.1]; simp [hq]
        clear hq
        go_wp2
        go_roundw
        case rel => exact ⟨k + 1, by omega, by go_num, Z.out, B8.out⟩
        case measure => simp [intOf]; omega
    · have Z : Hid (l.any (hit b) = false) := by show _ = _; have := HR.out.1; rw [List.take_of_length_le (by omega)] at this; exact this
      have hk' : k = l.length := by omega
      subst hk'
      go_wp2
      go_ret
      exact ⟨_, rfl, by rw [Z.out]; simp, HR.out.2⟩
theorem contains_any (b : Bat) (A : Option Addr) (c bx : Nat) (Ag : Option Addr) (cg : Nat) (l : List Gon) (g o : Nat) (F : Nat → Nat → Value) (w : World) (S : Nat → Prop) (hS : ∀ g, S g → g < w.heap.size) (O : Opn 3 EGon w S Ag cg l g o F) (hn : l.length ≤ 1048576) (hx : w.heap[bx]? = some (.cells #[.int .i64 b.base, .int .i64 b.epoch, .int .i64 b.producer, .int .i64 b.turn, .int .i64 b.seq, .int .i64 b.flags, .slice A b.recs.length c] 48 (0, 0))) :
    Calls Try.prog 47 #[.slice Ag l.length cg, .func (.func 48) #[] #[.pointer (some ⟨bx, 0, none⟩)]] w fun e w' => e = .returned (.bool (l.any (hit b))) ∧ Below w.heap.size w w' := by
  go_enter Try.func47, Try.ntmps47
  go_wp2_with fail
  refine (index_any b A c bx Ag cg l g o F w S hS O hn hx).mono ?_
  rintro e w1 ⟨q, rfl, hq, b1⟩
  have HQ := Seg.hid hq
  have B1 := Seg.hid b1
  clear hq b1
  go_wp2
  go_ret
  exact ⟨Seg.ret_bool HQ.out, B1.out⟩
theorem gone_any (b : Bat) (A : Option Addr) (c : Nat) (Ag : Option Addr) (cg : Nat) (l : List Gon) (g o : Nat) (F : Nat → Nat → Value) (w : World) (S : Nat → Prop) (hS : ∀ g, S g → g < w.heap.size) (O : Opn 3 EGon w S Ag cg l g o F) (hn : l.length ≤ 1048576) (hf : 0 ≤ b.flags ∧ b.flags ≤ 7) :
    Calls Try.prog 24 #[.agg #[.int .i64 b.base, .int .i64 b.epoch, .int .i64 b.producer, .int .i64 b.turn, .int .i64 b.seq, .int .i64 b.flags, .slice A b.recs.length c], .slice Ag l.length cg] w fun e w' => e = .returned (.bool (goneB l b)) ∧ Below w.heap.size w w' := by
  have HA := Seg.hid O
  have CT : Hid (∀ wx, wx = w.alloc (.cells #[.int .i64 b.base, .int .i64 b.epoch, .int .i64 b.producer, .int .i64 b.turn, .int .i64 b.seq, .int .i64 b.flags, .slice A b.recs.length c] 48 (0, 0)) → Calls Try.prog 47 #[.slice Ag l.length cg, .func (.func 48) #[] #[.pointer (some ⟨w.heap.size, 0, none⟩)]] wx fun e w' => e = .returned (.bool (l.any (hit b))) ∧ Below wx.heap.size wx w') := fun wx hw => by
    subst hw
    exact contains_any b A c w.heap.size Ag cg l g o F _ S (fun y hy => by rw [hsz]; have := hS y hy; omega) (HA.out.later keepsGon hS (below1 w _)) hn (heap_alloc_new _ _)
  clear O
  obtain ⟨fl, hfl⟩ : ∃ fl, b.flags = fl := ⟨_, rfl⟩
  rw [hfl] at hf CT ⊢
  have HFL := Seg.hid hfl
  clear hfl
  have ON : Hid (∀ k, fl = k → k / 2 % 2 = 1 → goneB l b = l.any (hit b)) := fun k h1 h2 => by unfold goneB op; rw [HFL.out, h1, decide_eq_true h2, Bool.true_and]
  have OF : Hid (∀ k, fl = k → ¬ k / 2 % 2 = 1 → goneB l b = false) := fun k h1 h2 => by unfold goneB op; rw [HFL.out, h1, decide_eq_false h2, Bool.false_and]
  clear HFL
  rcases SdM.flags_ways hf.1 hf.2 with rfl | rfl | rfl | rfl | rfl | rfl | rfl | rfl
  all_goals
    first
    | (have Z := Seg.hid (OF.out _ rfl (by decide))
       clear ON OF
       go_enter Try.func24, Try.ntmps24
       go_wp2
       go_ret
       exact ⟨by rw [Z.out]; rfl, below1 _ _⟩)
    | (have Z := Seg.hid (ON.out _ rfl (by decide))
       clear ON OF
       go_enter Try.func24, Try.ntmps24
       go_wp2_with fail
       refine (CT.out _ rfl).mono ?_
       rintro e w1 ⟨rfl, b1⟩
       have B1 := Seg.hid (chain (below1 w _) b1)
       clear b1
       go_wp2
       go_ret
       exact ⟨by rw [Z.out]; rfl, B1.out⟩)
end Go.Proofs.Ytdnfnjlnfmafkaa.VsG
