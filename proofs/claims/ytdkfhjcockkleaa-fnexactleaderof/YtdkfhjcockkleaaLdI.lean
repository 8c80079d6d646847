/- LeaderOf: on plain data; the program's and the model's. -/
import Derived.Test.YtdkfhjcockkleaaQkT
namespace Go.Proofs.Ytdkfhjcockkleaa.LdI
set_option maxRecDepth 8000
open Go.RowKit
open Ls QkP QkI QkS
open Recs (hsz below1 below2 chain)
set_option linter.unusedVariables false
def next (vs : List Vtr) (k : Nat) (x : Int) (v : Vtr) : Int := if v.role = 2 ∧ (x < 0 ∨ (vs.getD x.toNat default).term < v.term) then (k : Int) else x
def lead (vs : List Vtr) : Nat → Int → List Vtr → Int
  | _, x, [] => x
  | k, x, v :: r => lead vs (k + 1) (next vs k x v) r
def leader (q : Qrm) : Int := if quorum q = true then lead q.voters 0 (-1) q.voters else -1
/-- A quorum's value: two lists. -/
theorem form {w : World} {S : Nat → Prop} {v : Value} {t : Qrm} (h : QrmAt w S v t) : ∃ A0 c0 A1 c1, v = .agg #[.slice A0 t.voters.length c0, .slice A1 t.net.length c1] := by
  obtain ⟨f, rfl, y0, y1⟩ := h
  obtain ⟨A0, c0, g0⟩ := y0.form
  obtain ⟨A1, c1, g1⟩ := y1.form
  exact ⟨A0, c0, A1, c1, by rw [← g0, ← g1]; rfl⟩
theorem parts {w : World} {S : Nat → Prop} {t : Qrm} {a b : Value} (h : QrmAt w S (.agg #[a, b]) t) : LAt 8 EVtr w S a t.voters ∧ LAt 9 EMsg w S b t.net := by
  obtain ⟨f, hf, y0, y1⟩ := h
  simp only [arrQrm, Value.agg.injEq, Array.mk.injEq, List.cons.injEq, and_true] at hf
  exact ⟨hf.1 ▸ y0, hf.2 ▸ y1⟩
theorem next_lt {vs : List Vtr} {k : Nat} {x : Int} {v : Vtr} (h : -1 ≤ x ∧ x < k) : -1 ≤ next vs k x v ∧ next vs k x v < ((k + 1 : Nat) : Int) := by
  unfold next
  split <;> omega
theorem infoQ : (Try.prog.info? 31).map (·.size) = some 2 := by kernel_rfl
set_option maxHeartbeats 3200000 in
theorem impl_any (x : Value) (q : Qrm) (w : World) (S : Nat → Prop) (hv : QrmAt w S x q) (hS : ∀ g, S g → g < w.heap.size) (hf : szQrm q ≤ 1048576) :
    Calls Try.prog 16 #[x] w fun e w' => e = .returned (.int .i64 (leader q)) ∧ Below w.heap.size w w' := by
  have HV := Seg.hid hv
  obtain ⟨A0, c0, A1, c1, rfl⟩ := form hv
  obtain ⟨A0', c0', ga, oa, Fa, g0, OA, n0⟩ := opn (parts hv).1 hS
  simp only [Value.slice.injEq, true_and] at g0
  obtain ⟨rfl, rfl⟩ := g0
  have HA := Seg.hid OA
  have HF := Seg.hid hf
  clear hv OA hf
  go_enter Try.func16, Try.ntmps16
  go_wp2_with fail
  refine (QkI.impl_any _ q (w.alloc _) S (HV.out.below (below1 w _) hS) (fun g hg => by rw [hsz]; have := hS g hg; omega) HF.out).mono ?_
  rintro e w1 ⟨rfl, b1⟩
  have ST : Hid (St w w1 A0 A1 q.voters.length q.net.length c0 c1) := ⟨chain (below1 w _) b1, (b1.block w.heap.size (by rw [hsz]; omega)).trans (heap_alloc_new _ _)⟩
  clear b1
  cases hq : quorum q with
  | false =>
    have Z : Hid (leader q = -1) := by show _ = _; simp [leader, hq]
    clear hq
    go_wp2
    go_ret
    exact ⟨Seg.ret_int Z.out.symm, ST.out.bel⟩
  | true =>
  have Z : Hid (lead q.voters 0 (-1) (q.voters.drop 0) = leader q) := by show _ = _; simp [leader, hq]
  have hn5 : q.voters.length ≤ 5 := by have := hq; simp [quorum, inR] at this; omega
  clear hq
  obtain ⟨p0, p1⟩ := ST.out.cells
  go_wp2_with fail
  clear p0 p1
  go_loopw [3, 13] (fun f i wr => ∃ (k : Nat) (x : Int), k ≤ q.voters.length ∧ f = .int .i64 x ∧ i = .int .i64 k ∧ -1 ≤ x ∧ x < k ∧ Hid (lead q.voters k x (q.voters.drop k) = leader q ∧ St w wr A0 A1 q.voters.length q.net.length c0 c1)) (fun _ i _ => q.voters.length - (intOf i).toNat)
  case atStart => exact ⟨0, -1, Nat.zero_le _, rfl, rfl, by omega, by omega, Z.out, ST.out⟩
  case round =>
    clear ST Z
    obtain ⟨k, x, hk, rfl, rfl, hx0, hx1, HR⟩ := hrel
    by_cases hlt : k < q.voters.length
    · obtain ⟨ea, hc, hga⟩ := HA.out.addr.resolve_left (by omega)
      have CL := Seg.hid (cells_later HA.out.cells HR.out.2.bel hga)
      have EL : Hid (∀ i, i < q.voters.length → EVtr wr S (Fa i) (q.voters.getD i default)) := fun i hi => keepsVtr _ _ _ _ _ _ (HA.out.el i hi) (fun g hg => HR.out.2.bel.block g (hS g hg)) (fun _ _ => rfl)
      obtain ⟨A3, c3, A4, c4, A5, c5, A6, c6, ⟨d0, d1, d2, d3, d4, d5, d6, d7⟩, _⟩ := vtr_cells (i := k) (fun j hj => CL.out k hlt j hj) (EL.out k hlt)
      have TX : Hid (∀ m, m < q.voters.length → wr.cell? ⟨ga, oa + m * 8, none⟩ = some (.int .i64 (q.voters.getD m default).term)) := fun m hm => by
        obtain ⟨A3, c3, A4, c4, A5, c5, A6, c6, ⟨d0, _⟩, _⟩ := vtr_cells (i := m) (fun j hj => CL.out m hm j hj) (EL.out m hm)
        exact d0
      have HD := HR.out.1
      rw [drop_cons hlt] at HD
      have HD' := Seg.hid HD
      have hlt1 := HR.out.2.lt
      have hgw : ga < wr.heap.size := Nat.lt_of_lt_of_le hga HR.out.2.bel.size
      have NX : Hid (-1 ≤ next q.voters k x (q.voters.getD k default) ∧ next q.voters k x (q.voters.getD k default) < ((k + 1 : Nat) : Int)) := next_lt ⟨hx0, hx1⟩
      have h0 : (0 : Int) ≤ (k : Int) := by omega
      have h1 : (k : Int) < (q.voters.length : Int) := by omega
      have NE : Hid (next q.voters k x (q.voters.getD k default) = if (q.voters.getD k default).role = 2 ∧ (x < 0 ∨ (q.voters.getD x.toNat default).term < (q.voters.getD k default).term) then (k : Int) else x) := rfl
      clear HD EL
      generalize next q.voters k x (q.voters.getD k default) = nx at *
      have HE : Hid (lead q.voters (k + 1) nx (q.voters.drop (k + 1)) = leader q) := by
        show _ = _
        rw [← HD'.out, lead]
        congr 1
      clear HD'
      generalize q.voters.getD k default = vk at *
      subst ea
      go_wp2_with fail
      obtain ⟨wi, hwi⟩ : ∃ wi, wr.alloc (.cells #[.int .i64 vk.term, .int .i64 vk.vote, .int .i64 vk.role, .slice A3 vk.votes.length c3, .slice A4 vk.log.length c4, .slice A5 vk.next.length c5, .slice A6 vk.mtch.length c6, .int .i64 vk.sealed] 45 (0, 0)) = wi := ⟨_, rfl⟩
      rw [hwi]
      have S1 : Hid (St w wi (some ⟨ga, oa, none⟩) A1 q.voters.length q.net.length c0 c1) := hwi ▸ HR.out.2.alloc _
      obtain ⟨s0, s1, s2, s3, s4, s5, s6, s7⟩ := Vs.cells (v := vk) (w := wi) (g := wr.heap.size) (A3 := A3) (A4 := A4) (A5 := A5) (A6 := A6) (c3 := c3) (c4 := c4) (c5 := c5) (c6 := c6) ⟨hwi ▸ heap_alloc_new _ _⟩
      have TY : Hid (∀ m, m < q.voters.length → wi.cell? ⟨ga, oa + m * 8, none⟩ = some (.int .i64 (q.voters.getD m default).term)) := fun m hm => by
        rw [← hwi, World.cell?_of_block (w := wr) (a := ⟨ga, oa + m * 8, none⟩) ((below1 wr _).block ga hgw)]
        exact TX.out m hm
      clear hwi d0 d1 d2 d3 d4 d5 d6 d7 TX HR CL
      obtain ⟨p0, p1⟩ := S1.out.cells
      by_cases hr : vk.role = 2
      · have hr2 : (vk.role == 2) = true := by simp [hr]
        by_cases hx : x < 0
        · have HN : Hid (nx = (k : Int)) := by show _ = _; rw [NE.out, if_pos ⟨hr, .inl hx⟩]
          have hx2 : decide (x < 0) = true := decide_eq_true hx
          clear hr
          go_quiet (fail)
          go_wp2
          go_roundw
          case rel => exact ⟨k + 1, k, by omega, rfl, by go_num, by omega, by omega, by have := HE.out; rw [HN.out] at this; exact this, ⟨⟨S1.out.bel.os, S1.out.bel.tape, S1.out.bel.output, S1.out.bel.size, S1.out.bel.block⟩, S1.out.row⟩⟩
          case measure => simp [intOf]; omega
        · have hx2 : decide (x < 0) = false := decide_eq_false hx
          obtain ⟨m, rfl⟩ : ∃ m : Nat, x = (m : Int) := ⟨x.toNat, by omega⟩
          have hm : m < q.voters.length := by omega
          have tm := TY.out m hm
          have k2 : (0 : Int) ≤ (m : Int) := by omega
          have k3 : (m : Int) < (q.voters.length : Int) := by omega
          have NE' : Hid (nx = if (q.voters.getD m default).term < vk.term then (k : Int) else (m : Int)) := by
            show _ = _
            rw [NE.out]
            by_cases hh : (q.voters.getD m default).term < vk.term
            · rw [if_pos ⟨hr, .inr (by simpa using hh)⟩, if_pos hh]
            · rw [if_neg (fun h => by rcases h.2 with h' | h'; exact hx h'; exact hh (by simpa using h')), if_neg hh]
          clear NE hr
          generalize q.voters.getD m default = vm at *
          by_cases hgt : vm.term < vk.term
          · have HN : Hid (nx = (k : Int)) := by show _ = _; rw [NE'.out, if_pos hgt]
            have hg2 : decide (vm.term < vk.term) = true := decide_eq_true hgt
            go_quiet (fail)
            go_wp2
            go_roundw
            case rel => exact ⟨k + 1, k, by omega, rfl, by go_num, by omega, by omega, by have := HE.out; rw [HN.out] at this; exact this, ⟨⟨S1.out.bel.os, S1.out.bel.tape, S1.out.bel.output, S1.out.bel.size, S1.out.bel.block⟩, S1.out.row⟩⟩
            case measure => simp [intOf]; omega
          · have HN : Hid (nx = (m : Int)) := by show _ = _; rw [NE'.out, if_neg hgt]
            have hg2 : decide (vm.term < vk.term) = false := decide_eq_false hgt
            go_quiet (fail)
            go_wp2
            go_roundw
            case rel => exact ⟨k + 1, m, by omega, rfl, by go_num, by omega, by omega, by have := HE.out; rw [HN.out] at this; exact this, ⟨⟨S1.out.bel.os, S1.out.bel.tape, S1.out.bel.output, S1.out.bel.size, S1.out.bel.block⟩, S1.out.row⟩⟩
            case measure => simp [intOf]; omega
      · have hr2 : (vk.role == 2) = false := by simpa using hr
        have HN : Hid (nx = x) := by show _ = _; rw [NE.out, if_neg (fun h => hr h.1)]
        clear hr
        go_quiet (fail)
        go_wp2
        go_roundw
        case rel => exact ⟨k + 1, x, by omega, rfl, by go_num, by omega, by omega, by have := HE.out; rw [HN.out] at this; exact this, ⟨⟨S1.out.bel.os, S1.out.bel.tape, S1.out.bel.output, S1.out.bel.size, S1.out.bel.block⟩, S1.out.row⟩⟩
        case measure => simp [intOf]; omega
    · have hk' : k = q.voters.length := by omega
      have Z : Hid (x = leader q) := by
        show _ = _
        have := HR.out.1
        rw [List.drop_eq_nil_of_le (by omega)] at this
        exact this
      subst hk'
      go_wp2
      go_ret
      exact ⟨Seg.ret_int Z.out, HR.out.2.bel⟩
end Go.Proofs.Ytdkfhjcockkleaa.LdI
