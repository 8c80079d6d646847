/- QuorumOk of the program. -/
import Derived.Test.YtdkfhjcockkleaaQkJ
namespace Go.Proofs.Ytdkfhjcockkleaa.QkI
set_option maxRecDepth 8000
open Go.RowKit
open Ls QkP
open Recs (hsz below1 below2 chain)
set_option linter.unusedVariables false
/-- A voter of a list: its eight cells. -/
theorem vtr_cells {w : World} {S : Nat → Prop} {g o i : Nat} {v : Vtr} {F : Nat → Value} (h : ∀ j, j < 8 → w.cell? ⟨g, o + i * 8 + j, none⟩ = some (F j)) (he : EVtr w S F v) :
    ∃ A3 c3 A4 c4 A5 c5 A6 c6, (w.cell? ⟨g, o + i * 8, none⟩ = some (.int .i64 v.term) ∧ w.cell? ⟨g, o + i * 8 + 1, none⟩ = some (.int .i64 v.vote) ∧ w.cell? ⟨g, o + i * 8 + 2, none⟩ = some (.int .i64 v.role) ∧ w.cell? ⟨g, o + i * 8 + 3, none⟩ = some (.slice A3 v.votes.length c3) ∧
      w.cell? ⟨g, o + i * 8 + 4, none⟩ = some (.slice A4 v.log.length c4) ∧ w.cell? ⟨g, o + i * 8 + 5, none⟩ = some (.slice A5 v.next.length c5) ∧ w.cell? ⟨g, o + i * 8 + 6, none⟩ = some (.slice A6 v.mtch.length c6) ∧ w.cell? ⟨g, o + i * 8 + 7, none⟩ = some (.int .i64 v.sealed)) ∧
      VtrAt w S (.agg #[.int .i64 v.term, .int .i64 v.vote, .int .i64 v.role, .slice A3 v.votes.length c3, .slice A4 v.log.length c4, .slice A5 v.next.length c5, .slice A6 v.mtch.length c6, .int .i64 v.sealed]) v := by
  have he' := he
  obtain ⟨y0, y1, y2, y3, y4, y5, y6, y7⟩ := he
  obtain ⟨A3, c3, g3⟩ := y3.form
  obtain ⟨A4, c4, g4⟩ := y4.form
  obtain ⟨A5, c5, g5⟩ := y5.form
  obtain ⟨A6, c6, g6⟩ := y6.form
  refine ⟨A3, c3, A4, c4, A5, c5, A6, c6, ⟨?_, ?_, ?_, ?_, ?_, ?_, ?_, ?_⟩, F, ?_, he'⟩
  · rw [← y0]; exact h 0 (by omega)
  · rw [← y1]; exact h 1 (by omega)
  · rw [← y2]; exact h 2 (by omega)
  · rw [← g3]; exact h 3 (by omega)
  · rw [← g4]; exact h 4 (by omega)
  · rw [← g5]; exact h 5 (by omega)
  · rw [← g6]; exact h 6 (by omega)
  · rw [← y7]; exact h 7 (by omega)
  · rw [← y0, ← y1, ← y2, ← g3, ← g4, ← g5, ← g6, ← y7]; rfl
theorem msg_cells {w : World} {S : Nat → Prop} {g o i : Nat} {v : Msg} {F : Nat → Value} (h : ∀ j, j < 9 → w.cell? ⟨g, o + i * 9 + j, none⟩ = some (F j)) (he : EMsg w S F v) :
    ∃ A6 c6, (w.cell? ⟨g, o + i * 9, none⟩ = some (.int .i64 v.kind) ∧ w.cell? ⟨g, o + i * 9 + 1, none⟩ = some (.int .i64 v.src) ∧ w.cell? ⟨g, o + i * 9 + 2, none⟩ = some (.int .i64 v.dst) ∧ w.cell? ⟨g, o + i * 9 + 3, none⟩ = some (.int .i64 v.term) ∧
      w.cell? ⟨g, o + i * 9 + 4, none⟩ = some (.int .i64 v.pos) ∧ w.cell? ⟨g, o + i * 9 + 5, none⟩ = some (.int .i64 v.posTerm) ∧ w.cell? ⟨g, o + i * 9 + 6, none⟩ = some (.slice A6 v.cmds.length c6) ∧ w.cell? ⟨g, o + i * 9 + 7, none⟩ = some (.int .i64 v.sealed) ∧ w.cell? ⟨g, o + i * 9 + 8, none⟩ = some (.bool v.yes)) ∧
      LAt 2 ECmd w S (.slice A6 v.cmds.length c6) v.cmds := by
  obtain ⟨y0, y1, y2, y3, y4, y5, y6, y7, y8⟩ := he
  obtain ⟨A6, c6, g6⟩ := y6.form
  refine ⟨A6, c6, ⟨?_, ?_, ?_, ?_, ?_, ?_, ?_, ?_, ?_⟩, g6 ▸ y6⟩
  · rw [← y0]; exact h 0 (by omega)
  · rw [← y1]; exact h 1 (by omega)
  · rw [← y2]; exact h 2 (by omega)
  · rw [← y3]; exact h 3 (by omega)
  · rw [← y4]; exact h 4 (by omega)
  · rw [← y5]; exact h 5 (by omega)
  · rw [← g6]; exact h 6 (by omega)
  · rw [← y7]; exact h 7 (by omega)
  · rw [← y8]; exact h 8 (by omega)
/-- What stands while the check goes on: the quorum's two cells, and all that lay. -/
structure St (w wr : World) (A0 A1 : Option Addr) (n0 n1 c0 c1 : Nat) : Prop where
  bel : Below w.heap.size w wr
  row : wr.heap[w.heap.size]? = some (.cells #[.slice A0 n0 c0, .slice A1 n1 c1] 31 (0, 0))
theorem St.cells {w wr : World} {A0 A1 : Option Addr} {n0 n1 c0 c1 : Nat} (h : St w wr A0 A1 n0 n1 c0 c1) : wr.cell? ⟨w.heap.size, 0, none⟩ = some (.slice A0 n0 c0) ∧ wr.cell? ⟨w.heap.size, 1, none⟩ = some (.slice A1 n1 c1) :=
  ⟨cell_of_row wr _ 0 _ _ (0, 0) h.row, cell_of_row wr _ 1 _ _ (0, 0) h.row⟩
theorem St.lt {w wr : World} {A0 A1 : Option Addr} {n0 n1 c0 c1 : Nat} (h : St w wr A0 A1 n0 n1 c0 c1) : w.heap.size < wr.heap.size := (Array.getElem?_eq_some_iff.1 h.row).1
theorem St.alloc {w wr : World} {A0 A1 : Option Addr} {n0 n1 c0 c1 : Nat} (h : St w wr A0 A1 n0 n1 c0 c1) (o : Obj) : St w (wr.alloc o) A0 A1 n0 n1 c0 c1 :=
  ⟨h.bel.alloc h.bel.size _, ((below1 wr o).block _ h.lt).trans h.row⟩
theorem St.next {w wr w' : World} {A0 A1 : Option Addr} {n0 n1 c0 c1 : Nat} (h : St w wr A0 A1 n0 n1 c0 c1) (b : Below wr.heap.size wr w') : St w w' A0 A1 n0 n1 c0 c1 :=
  ⟨chain h.bel b, (b.block _ h.lt).trans h.row⟩
/-- A list in memory, opened where it has elements. -/
structure Opn {T : Type} [Inhabited T] (nf : Nat) (E : Elt T) (w : World) (S : Nat → Prop) (A : Option Addr) (c : Nat) (us : List T) (g o : Nat) (F : Nat → Nat → Value) : Prop where
  addr : us.length = 0 ∨ (A = some ⟨g, o, none⟩ ∧ us.length ≤ c ∧ g < w.heap.size)
  cells : ∀ i, i < us.length → ∀ j, j < nf → w.cell? ⟨g, o + i * nf + j, none⟩ = some (F i j)
  el : ∀ i, i < us.length → E w S (F i) (us.getD i default)
theorem opn {T : Type} [Inhabited T] {nf : Nat} {E : Elt T} {w : World} {S : Nat → Prop} {v : Value} {us : List T} (h : LAt nf E w S v us) (hS : ∀ g, S g → g < w.heap.size) : ∃ A c g o F, v = .slice A us.length c ∧ Opn nf E w S A c us g o F ∧ us.length ≤ 9223372036854775807 := by
  obtain ⟨hn, A, c, rfl, h⟩ := h
  by_cases hz : us.length = 0
  · exact ⟨A, c, 0, 0, fun _ _ => default, rfl, ⟨.inl hz, fun i hi => absurd hi (by omega), fun i hi => absurd hi (by omega)⟩, hn⟩
  obtain ⟨g, o, F, rfl, hg, hc, hcell, hel⟩ := h.resolve_left hz
  exact ⟨_, c, g, o, F, rfl, ⟨.inr ⟨rfl, hc, hS g hg⟩, hcell, hel⟩, hn⟩
set_option maxHeartbeats 1600000 in
theorem impl_any (x : Value) (q : Qrm) (w : World) (S : Nat → Prop) (hv : QrmAt w S x q) (hS : ∀ g, S g → g < w.heap.size) (hf : szQrm q ≤ 1048576) :
    Calls Try.prog 9 #[x] w fun e w' => e = .returned (.bool (quorum q)) ∧ Below w.heap.size w w' := by
  obtain ⟨f, rfl, y0, y1⟩ := hv
  unfold arrQrm
  obtain ⟨A0, c0, ga, oa, Fa, g0, OA, n0⟩ := opn y0 hS
  obtain ⟨A1, c1, gb, ob, Fb, g1, OB, n1⟩ := opn y1 hS
  rw [g0, g1]
  have HA := Seg.hid OA; have HB := Seg.hid OB
  have L0 : Hid (∀ i, i < q.voters.length → szVtr (q.voters.getD i default) ≤ 1048576) := fun i hi => szL_one _ (show szL szVtr q.voters ≤ 1048576 by unfold szQrm at hf; omega) hi
  have L1 : Hid (∀ i, i < q.net.length → szL szCmd (q.net.getD i default).cmds ≤ 1048576) := fun i hi => by
    have := szL_one _ (show szL szMsg q.net ≤ 1048576 by unfold szQrm at hf; omega) hi
    unfold szMsg at this; exact this
  clear y0 y1 OA OB g0 g1 hf
  go_enter Try.func9, Try.ntmps9
  have no : ∀ (w' : World), quorum q = false → Below w.heap.size w w' → (Ending.returned (.bool false) = .returned (.bool (quorum q)) ∧ Below w.heap.size w w') := fun w' h b => ⟨by rw [h], b⟩
  have NO := Seg.hid no
  clear no
  go_wp2_with fail
  cases h1 : inR 1 q.voters.length 5 with
  | false =>
    refine (InB.within_b _ _ _ false h1 _).mono ?_
    rintro e w1 ⟨rfl, rfl⟩
    have Z : Hid (quorum q = false) := by show _ = _; simp [quorum, h1]
    clear h1
    go_wp2
    go_ret
    exact NO.out _ Z.out (below1 _ _)
  | true =>
  refine (InB.within_b _ _ _ true h1 _).mono ?_
  rintro e w1 ⟨rfl, rfl⟩
  have K1 := Seg.hid h1
  have hn5 : 1 ≤ q.voters.length ∧ q.voters.length ≤ 5 := by simp [inR] at h1; omega
  clear h1
  by_cases hnet : q.net.length ≤ 400
  case neg =>
    have Z : Hid (quorum q = false) := by show _ = _; simp [quorum, hnet]
    go_wp2
    go_ret
    exact NO.out _ Z.out (below1 _ _)
  have KQ : Hid (quorum q = (voters q.voters.length q.voters && net q.net)) := by show _ = _; simp [quorum, K1.out, hnet]
  clear K1
  have ST : Hid (St w (w.alloc (.cells #[.slice A0 q.voters.length c0, .slice A1 q.net.length c1] 31 (0, 0))) A0 A1 q.voters.length q.net.length c0 c1) := ⟨below1 _ _, heap_alloc_new _ _⟩
  go_wp2_with fail
  go_loopw [21] (fun i wr => ∃ (k : Nat), k ≤ q.voters.length ∧ i = .int .i64 k ∧ Hid (voters q.voters.length (q.voters.drop k) = voters q.voters.length q.voters ∧ St w wr A0 A1 q.voters.length q.net.length c0 c1)) (fun i _ => q.voters.length - (intOf i).toNat)
  case atStart => exact ⟨0, Nat.zero_le _, rfl, rfl, ST.out⟩
  case round =>
    clear ST
    obtain ⟨k, hk, rfl, HR⟩ := hrel
    by_cases hlt : k < q.voters.length
    · obtain ⟨ea, hc, hga⟩ := HA.out.addr.resolve_left (by omega)
      have CL := cells_later HA.out.cells HR.out.2.bel hga
      have EL : EVtr wr S (Fa k) (q.voters.getD k default) := keepsVtr _ _ _ _ _ _ (HA.out.el k hlt) (fun g hg => HR.out.2.bel.block g (hS g hg)) (fun _ _ => rfl)
      obtain ⟨A3, c3, A4, c4, A5, c5, A6, c6, ⟨d0, d1, d2, d3, d4, d5, d6, d7⟩, VA⟩ := vtr_cells (i := k) (fun j hj => CL k hlt j hj) EL
      have VA' := Seg.hid VA
      have VF := Seg.hid (L0.out k hlt)
      have HD := HR.out.1
      rw [drop_cons hlt] at HD
      have HD' := Seg.hid HD
      obtain ⟨p0, p1⟩ := HR.out.2.cells
      have hlt1 := HR.out.2.lt
      have h0 : (0 : Int) ≤ (k : Int) := by omega
      have h1 : (k : Int) < (q.voters.length : Int) := by omega
      clear CL EL VA HD
      generalize q.voters.getD k default = vk at *
      subst ea
      go_wp2_with fail
      refine (voter_any _ vk q.voters.length (wr.alloc _) S (VA'.out.below ((below1 wr _).mono HR.out.2.bel.size) hS) (fun g hg => by rw [hsz]; have := hS g hg; omega) VF.out (by omega) (by omega)).mono ?_
      rintro e w1 ⟨rfl, b1⟩
      have S1 := Seg.hid ((HR.out.2.alloc _).next b1)
      clear b1
      cases hb : voter q.voters.length vk with
      | false =>
        have Z : Hid (quorum q = false) := by show _ = _; rw [KQ.out, ← HD'.out]; simp [voters, hb]
        clear hb
        go_wp2
        go_ret
        exact NO.out _ Z.out S1.out.bel
      | true =>
        have HE : Hid (voters q.voters.length (q.voters.drop (k + 1)) = voters q.voters.length q.voters) := by show _ = _; rw [← HD'.out]; simp [voters, hb]
        clear hb
        go_wp2
        go_roundw
        case rel => exact ⟨k + 1, by omega, by go_num, HE.out, S1.out⟩
        case measure => simp [intOf]; omega
    · have hk' : k = q.voters.length := by omega
      have KN : Hid (quorum q = net q.net) := by
        show _ = _
        have := HR.out.1
        rw [List.drop_eq_nil_of_le (by omega)] at this
        rw [KQ.out, ← this]; rfl
      have ST := Seg.hid HR.out.2
      obtain ⟨p0, p1⟩ := HR.out.2.cells
      clear HR
      subst hk'
      obtain ⟨wo, hwo⟩ : ∃ wo, wo = wr := ⟨wr, rfl⟩
      subst hwo
      go_wp2_with fail
      clear p0 p1
      go_loopw [35] (fun i wr => ∃ (k : Nat), k ≤ q.net.length ∧ i = .int .i64 k ∧ Hid (net (q.net.drop k) = net q.net ∧ St w wr A0 A1 q.voters.length q.net.length c0 c1)) (fun i _ => q.net.length - (intOf i).toNat)
      case atStart => exact ⟨0, Nat.zero_le _, rfl, rfl, ST.out⟩
      case round =>
        clear ST
        obtain ⟨k, hk, rfl, HR⟩ := hrel
        by_cases hlt : k < q.net.length
        · obtain ⟨ea, hc, hga⟩ := HB.out.addr.resolve_left (by omega)
          have CL := cells_later HB.out.cells HR.out.2.bel hga
          have EL : EMsg wr S (Fb k) (q.net.getD k default) := keepsMsg _ _ _ _ _ _ (HB.out.el k hlt) (fun g hg => HR.out.2.bel.block g (hS g hg)) (fun _ _ => rfl)
          obtain ⟨A6, c6, ⟨d0, d1, d2, d3, d4, d5, d6, d7, d8⟩, VA⟩ := msg_cells (i := k) (fun j hj => CL k hlt j hj) EL
          have VA' := Seg.hid VA
          have VF := Seg.hid (L1.out k hlt)
          have HD := HR.out.1
          rw [drop_cons hlt] at HD
          have HD' := Seg.hid HD
          have h0 : (0 : Int) ≤ (k : Int) := by omega
          have h1 : (k : Int) < (q.net.length : Int) := by omega
          clear CL EL VA HD
          generalize q.net.getD k default = vk at *
          subst ea
          go_wp2_with fail
          refine (cmds_any _ vk.cmds _ (wr.alloc _) S (VA'.out.below keepsCmd ((below1 wr _).mono HR.out.2.bel.size) hS) (fun g hg => by rw [hsz]; have := hS g hg; have := HR.out.2.bel.size; omega) VF.out rfl).mono ?_
          rintro e w1 ⟨rfl, b1⟩
          have S1 := Seg.hid ((HR.out.2.alloc _).next b1)
          clear b1
          cases hb : cmds vk.cmds with
          | false =>
            have Z : Hid (quorum q = false) := by show _ = _; rw [KN.out, ← HD'.out]; simp [net, hb]
            clear hb
            go_wp2
            go_ret
            exact NO.out _ Z.out S1.out.bel
          | true =>
            have HE : Hid (net (q.net.drop (k + 1)) = net q.net) := by show _ = _; rw [← HD'.out]; simp [net, hb]
            clear hb
            go_wp2
            go_roundw
            case rel => exact ⟨k + 1, by omega, by go_num, HE.out, S1.out⟩
            case measure => simp [intOf]; omega
        · have hk' : k = q.net.length := by omega
          have Z : Hid (true = quorum q) := by
            show _ = _
            have := HR.out.1
            rw [List.drop_eq_nil_of_le (by omega)] at this
            rw [KN.out, ← this]; rfl
          subst hk'
          go_wp2
          go_ret
          exact ⟨Seg.ret_bool Z.out, HR.out.2.bel⟩
end Go.Proofs.Ytdkfhjcockkleaa.QkI
