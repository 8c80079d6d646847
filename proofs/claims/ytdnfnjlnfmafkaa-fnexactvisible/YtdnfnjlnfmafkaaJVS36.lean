/- The model's l8Open. -/
import Derived.Deep.AppendLies
import Derived.Deep.RegionLaw
import Derived.BigQuiet
import Derived.Test.YtdnfnjlnfmafkaaJVS35
import Derived.Test.YtdnfnjlnfmafkaaJVS17
import Derived.Test.YtdnfnjlnfmafkaaJVS22
namespace Go.Proofs.Ytdnfnjlnfmafkaa.SdO
set_option maxRecDepth 8000
open Go.RowKit
open Ls SdQ SdM SdJ SdN
open Lp (Qt)
open Ft (step_append_all)
open Recs (hsz below1 below2 chain Bat RecsAt)
open BfI (add_off)
open Bats (BatsAt)
set_option linter.unusedVariables false
theorem gcells_cat (a b : List Gon) : gcells (a ++ b) = gcells a ++ gcells b := by simp [gcells]
theorem row_base {w : World} {B B' n : Nat} {v : Value} {xs : List Value} (h : w.ownsRow B 50 3 v n xs) (hb : B' ≤ B) : w.ownsRow B' 50 3 v n xs := by
  refine ⟨h.1, ?_⟩
  rcases h.2 with h' | ⟨g, cap, cur, h1, h2, r⟩
  · exact .inl h'
  · exact .inr ⟨g, cap, cur, h1, Nat.le_trans hb h2, r⟩
theorem take_cells {st : List Gon} {i j : Nat} {u : Value} (hi : i ≤ st.length) (h : (gcells (st.take i))[j]? = some u) : j < st.length * 3 ∧ (gcells st).getD j default = u := by
  have hl : j < (gcells (st.take i)).length := (List.getElem?_eq_some_iff.1 h).1
  rw [gcells_len, List.length_take] at hl
  have e : gcells st = gcells (st.take i) ++ gcells (st.drop i) := by rw [← gcells_cat, List.take_append_drop]
  refine ⟨by have := Nat.min_le_right i st.length; omega, ?_⟩
  rw [List.getD_eq_getElem?_getD, e, List.getElem?_append_left ((List.getElem?_eq_some_iff.1 h).1), h]
  rfl
theorem drop_cells {st : List Gon} {i j : Nat} {u : Value} (hi : i ≤ st.length) (h : (gcells (st.drop i))[j]? = some u) : i * 3 + j < st.length * 3 ∧ (gcells st).getD (i * 3 + j) default = u := by
  have hl : j < (gcells (st.drop i)).length := (List.getElem?_eq_some_iff.1 h).1
  rw [gcells_len, List.length_drop] at hl
  have e : gcells st = gcells (st.take i) ++ gcells (st.drop i) := by rw [← gcells_cat, List.take_append_drop]
  have l1 : (gcells (st.take i)).length = i * 3 := by rw [gcells_len, List.length_take, Nat.min_eq_left hi]
  refine ⟨by omega, ?_⟩
  rw [List.getD_eq_getElem?_getD, e, List.getElem?_append_right (by omega), l1, Nat.add_sub_cancel_left, h]
  rfl
/-- What stands between two rounds: two rows of the call's own. -/
structure OS (w wr : World) (st gs : List Gon) (ov gv : Value) : Prop where
  r1 : wr.ownsRow w.heap.size 50 3 ov st.length (gcells st)
  r2 : wr.ownsRow w.heap.size 50 3 gv gs.length (gcells gs)
  ap : ∀ x, ov.ownBlock = some x → gv.ownBlock ≠ some x
  bel : Below w.heap.size w wr
section
variable {w wr w' w8 w9 : World} {st gs : List Gon} {ov gv v' : Value}
theorem OS.next (h : OS w wr st gs ov gv) (b : Below wr.heap.size wr w') : OS w w' st gs ov gv :=
  ⟨row_kept h.r1 (fun x hx => b.block x (World.ownsRow.lt h.r1 x hx).2), row_kept h.r2 (fun x hx => b.block x (World.ownsRow.lt h.r2 x hx).2), h.ap, chain h.bel b⟩
/-- A row grows, the other one stays. -/
theorem bel_grow {B : Nat} (h : Below B w wr) (hB : B ≤ wr.heap.size) (b8 : Below wr.heap.size wr w8) (gr : w8.grownBy w9 ov.ownBlock) (hv : ∀ x, ov.ownBlock = some x → B ≤ x) : Below B w w9 := by
  have s8 := b8.size
  exact ⟨gr.os.trans (b8.os.trans h.os), gr.tape.trans (b8.tape.trans h.tape), gr.output.trans (b8.output.trans h.output), Nat.le_trans h.size (Nat.le_trans b8.size gr.size), fun k hk => (gr.block k (by omega) (fun e => by have := hv k e.symm; omega)).trans ((b8.block k (by omega)).trans (h.block k hk))⟩
theorem OS.more (h : OS w wr st gs ov gv) (b8 : Below wr.heap.size wr w8) {g : Gon} (hown : w9.ownsRow w.heap.size 50 3 v' (st.length + 1) (gcells st ++ [.int .i64 g.producer, .int .i64 g.first, .int .i64 g.last])) (gr : w8.grownBy w9 ov.ownBlock) (hat : v'.ownBlock = ov.ownBlock ∨ ∃ x, v'.ownBlock = some x ∧ wr.heap.size ≤ x) : OS w w9 (st ++ [g]) gs v' gv := by
  have lt1 := World.ownsRow.lt h.r1
  have lt2 := World.ownsRow.lt h.r2
  have s8 := b8.size
  refine ⟨by rw [gcells_app, List.length_append]; exact hown, row_kept h.r2 (fun x hx => ?_), fun x hx hx' => ?_, bel_grow h.bel h.bel.size b8 gr (fun x hx => (lt1 x hx).1)⟩
  · exact (gr.block x (by have := (lt2 x hx).2; omega) (fun e => h.ap x e.symm hx)).trans (b8.block x (lt2 x hx).2)
  · rcases hat with e | ⟨y, e, hy⟩
    · rw [e] at hx; exact h.ap x hx hx'
    · rw [e] at hx; cases hx; have := (lt2 _ hx').2; omega
theorem OS.abort (h : OS w wr st gs ov gv) (b8 : Below wr.heap.size wr w8) {g : Gon} (hown : w9.ownsRow w.heap.size 50 3 v' (gs.length + 1) (gcells gs ++ [.int .i64 g.producer, .int .i64 g.first, .int .i64 g.last])) (gr : w8.grownBy w9 gv.ownBlock) (hat : v'.ownBlock = gv.ownBlock ∨ ∃ x, v'.ownBlock = some x ∧ wr.heap.size ≤ x) : OS w w9 st (gs ++ [g]) ov v' := by
  have lt1 := World.ownsRow.lt h.r1
  have lt2 := World.ownsRow.lt h.r2
  have s8 := b8.size
  refine ⟨row_kept h.r1 (fun x hx => ?_), by rw [gcells_app, List.length_append]; exact hown, fun x hx hx' => ?_, bel_grow h.bel h.bel.size b8 gr (fun x hx => (lt2 x hx).1)⟩
  · exact (gr.block x (by have := (lt1 x hx).2; omega) (fun e => h.ap x hx e.symm)).trans (b8.block x (lt1 x hx).2)
  · rcases hat with e | ⟨y, e, hy⟩
    · rw [e] at hx'; exact h.ap x hx hx'
    · rw [e] at hx'; cases hx'; have := (lt1 _ hx).2; omega
/-- A new row in place of the elder one. -/
theorem OS.swap (h : OS w wr st gs ov gv) {st' : List Gon} (b : Below wr.heap.size wr w9) (hown : w9.ownsRow w.heap.size 50 3 v' st'.length (gcells st')) (hat : ∀ x, v'.ownBlock = some x → wr.heap.size ≤ x) : OS w w9 st' gs v' gv := by
  have lt2 := World.ownsRow.lt h.r2
  exact ⟨hown, row_kept h.r2 (fun x hx => b.block x (lt2 x hx).2), fun x hx hx' => by have := hat x hx; have := (lt2 x hx').2; omega, chain h.bel b⟩
theorem OS.swap2 (h : OS w wr st gs ov gv) {i : Nat} {v9 : Value} (hi : i < st.length) (b9 : Below wr.heap.size wr w8) (hv9 : w8.ownsRow wr.heap.size 50 3 v9 (0 + i) ([] ++ gcells (st.take i))) (gr : w8.grownBy w9 v9.ownBlock) (hown : w9.ownsRow wr.heap.size 50 3 v' (0 + i + (st.length - (i + 1))) ([] ++ gcells (st.take i) ++ gcells (st.drop (i + 1)))) : OS w w9 (st.take i ++ st.drop (i + 1)) gs v' gv := by
  have lt9 := World.ownsRow.lt hv9
  have lt10 := World.ownsRow.lt hown
  refine h.swap (bel_grow b9 b9.size (Below.refl _ _) gr (fun x hx => (lt9 x hx).1)) ?_ (fun x hx => (lt10 x hx).1)
  have e : (st.take i ++ st.drop (i + 1)).length = 0 + i + (st.length - (i + 1)) := by rw [List.length_append, List.length_take, List.length_drop, Nat.min_eq_left (by omega)]; omega
  rw [e, gcells_cat]
  exact row_base hown h.bel.size
theorem row_at {base : Nat} (h : wr.ownsRow base 50 3 ov st.length (gcells st)) (hn : 0 < st.length) : ∃ g cap, ov = .slice (some ⟨g, 0, none⟩) st.length cap ∧ st.length ≤ cap ∧ g < wr.heap.size ∧ ∀ q, q < st.length * 3 → wr.cell? ⟨g, q, none⟩ = some ((gcells st).getD q default) := by
  rcases h.2 with ⟨_, h0⟩ | ⟨g, cap, cur, rfl, hb, hg, hnc, hcm, hcs, htake⟩
  · omega
  · refine ⟨g, cap, rfl, hnc, (Array.getElem?_eq_some_iff.1 hg).1, fun q hq => ?_⟩
    have hqc : q < cur.size := by rw [hcs]; exact Nat.lt_of_lt_of_le hq (Nat.mul_le_mul_right 3 hnc)
    have e2 : (cur.toList.take (st.length * 3))[q]? = some cur[q] := by
      rw [List.getElem?_take_of_lt hq, Array.getElem?_toList, Array.getElem?_eq_getElem hqc]
    have e1 := World.news_of_block hg q cur[q] (by rw [Array.getElem?_toList, Array.getElem?_eq_getElem hqc])
    rw [add_off, Nat.zero_add] at e1
    rw [htake] at e2
    rw [e1, List.getD_eq_getElem?_getD, e2]
    rfl
theorem os_le (l : List Bat) : ∀ s : List Gon × List Gon, (runB s l).1.length ≤ s.1.length + l.length := by
  induction l with
  | nil => intro s; simp [runB]
  | cons b r ih =>
    intro s
    have h1 := ih (stp s b)
    have h2 : (stp s b).1.length ≤ s.1.length + 1 := by
      rw [step_fst]
      unfold opn2
      split
      · exact Nat.le_succ_of_le (List.length_filter_le _ _)
      · split
        · simp
        · omega
    show (runB (stp s b) r).1.length ≤ _
    simp only [List.length_cons]
    omega
theorem row_gon {base : Nat} (h : wr.ownsRow base 50 3 ov st.length (gcells st)) {j : Nat} (hj : j < st.length) : ∃ g cap, ov = .slice (some ⟨g, 0, none⟩) st.length cap ∧ st.length ≤ cap ∧ g < wr.heap.size ∧ wr.cell? ⟨g, j * 3, none⟩ = some (.int .i64 (st.getD j default).producer) ∧ wr.cell? ⟨g, j * 3 + 1, none⟩ = some (.int .i64 (st.getD j default).first) := by
  obtain ⟨g, cap, e, h1, h2, h3⟩ := row_at h (by omega)
  have G := gcells_get st j hj
  refine ⟨g, cap, e, h1, h2, ?_, ?_⟩
  · rw [h3 (j * 3) (by omega)]; exact congrArg some (G 0 (by omega))
  · rw [h3 (j * 3 + 1) (by omega)]; exact congrArg some (G 1 (by omega))
end
set_option maxHeartbeats 12800000 in
theorem open_any (x : Value) (l : List Bat) (w : World) (lo b : Nat) (hv : BatsAt w lo b x l) (hb : b ≤ w.heap.size) (hn : l.length ≤ 400) (hok : ∀ i, i < l.length → BOk.batOk (l.getD i default) = true) :
    Calls Try.prog 35 #[x] w fun e w' => ∃ ov gv, e = .returned (.tuple #[ov, gv]) ∧ OS w w' (runB ([], []) l).1 (runB ([], []) l).2 ov gv := by
  obtain ⟨i0, hi, hz0, hz1, hz2⟩ := info_parts infoZGon
  obtain ⟨H, ⟨_, A, c, rfl, hrow⟩, hh⟩ := id hv
  have HROW := Seg.hid hrow
  have HH := Seg.hid hh
  have HOK := Seg.hid hok
  clear hv hrow hh hok
  go_enter Try.func35, Try.ntmps35
  have S0 : Hid (OS w ((w.alloc (.cells #[] 50 (0, 0))).alloc (.cells #[] 50 (0, 0))) [] [] (.slice (some ⟨w.heap.size, 0, none⟩) 0 0) (.slice (some ⟨w.heap.size + 1, 0, none⟩) 0 0)) := ⟨⟨rfl, .inr ⟨_, 0, #[], rfl, Nat.le_refl _, at2z _ _ _, Nat.le_refl _, by unfold maxLen; omega, rfl, rfl⟩⟩, ⟨rfl, .inr ⟨_, 0, #[], rfl, Nat.le_succ _, at2y _ _ _, Nat.le_refl _, by unfold maxLen; omega, rfl, rfl⟩⟩, fun x h1 h2 => by simp only [Value.ownBlock, Option.some.injEq] at h1 h2; omega, below2 _ _ _⟩
  go_wp2_with fail
  go_loopw [4, 5, 6] (fun ov gv i wr => ∃ (k : Nat) (rs : List Gon × List Gon), k ≤ l.length ∧ rs = runB ([], []) (l.take k) ∧ UN rs.1 ∧ i = .int .i64 k ∧ Hid (OS w wr rs.1 rs.2 ov gv)) (fun _ _ i _ => l.length - (intOf i).toNat)
  case atStart => exact ⟨0, ([], []), Nat.zero_le _, rfl, List.nodup_nil, rfl, S0.out⟩
  case round =>
    obtain ⟨k, rs, hk, hrs, hun, rfl, HR⟩ := hrel
    have UU := Seg.hid hun
    have HRS := Seg.hid hrs
    clear hun hrs S0
    obtain ⟨ov, hov⟩ : ∃ ov, ov = u4 := ⟨_, rfl⟩
    subst hov
    obtain ⟨gv, hgv⟩ : ∃ gv, gv = u5 := ⟨_, rfl⟩
    subst hgv
    have hr1 : rs.1.length ≤ 400 := by rw [HRS.out]; have := os_le (l.take k) ([], []); simp at this; omega
    have hr2 : rs.2.length ≤ 400 := by rw [HRS.out]; have := gs_le (l.take k) ([], []); simp at this; omega
    by_cases hlt : k < l.length
    · obtain ⟨g, o, ea, hg, hc, hcell, _⟩ := HROW.out.resolve_left (by omega)
      have hgw : g < w.heap.size := by omega
      obtain ⟨d0, d1, d2, d3, d4, d5, d6⟩ := Bats.six (fun i hi q hq => (HR.out.bel.cell (p := ⟨g, o + i * 7 + q, none⟩) hgw).trans (hcell i hi q hq)) k hlt
      have hbok := HOK.out k hlt
      have h0 : (0 : Int) ≤ (k : Int) := by omega
      have h1 : (k : Int) < (l.length : Int) := by omega
      have hgr : g < wr.heap.size := Nat.lt_of_lt_of_le hgw HR.out.bel.size
      have SX : Hid (runB ([], []) (l.take (k + 1)) = stp rs (l.getD k default)) := by
        show _ = _
        rw [HRS.out, ← run_app]
        congr 1
        rw [List.take_add_one, List.getElem?_eq_getElem hlt]; simp [hlt]
      have hrk := HH.out k hlt
      obtain ⟨H6, ⟨_, A6, c6, hv6, hrow6⟩, _⟩ := id hrk
      rw [hv6] at d6
      have RK := Seg.hid hrow6
      clear hcell hrk hrow6 hv6
      generalize l.getD k default = t at *
      subst ea
      go_upto_region 7 with fail
      have RI : Hid ((wr.alloc (.cells #[.int .i64 t.base, .int .i64 t.epoch, .int .i64 t.producer, .int .i64 t.turn, .int .i64 t.seq, .int .i64 t.flags, .slice A6 t.recs.length c6] 48 (0, 0))).heap[wr.heap.size]? = some (.cells #[.int .i64 t.base, .int .i64 t.epoch, .int .i64 t.producer, .int .i64 t.turn, .int .i64 t.seq, .int .i64 t.flags, .slice A6 t.recs.length c6] 48 (0, 0))) := heap_alloc_new _ _
      have OI : Hid (OS w (wr.alloc (.cells #[.int .i64 t.base, .int .i64 t.epoch, .int .i64 t.producer, .int .i64 t.turn, .int .i64 t.seq, .int .i64 t.flags, .slice A6 t.recs.length c6] 48 (0, 0))) rs.1 rs.2 ov gv) := HR.out.next (below1 wr _)
      generalize wr.alloc (.cells #[.int .i64 t.base, .int .i64 t.epoch, .int .i64 t.producer, .int .i64 t.turn, .int .i64 t.seq, .int .i64 t.flags, .slice A6 t.recs.length c6] 48 (0, 0)) = wi at *
      have hpr : wr.heap.size < wi.heap.size := (Array.getElem?_eq_some_iff.1 RI.out).1
      clear d0 d1 d2 d3 d4 d5 d6 HR
      generalize wr.heap.size = pr at *
      obtain ⟨hf0, hf7⟩ := (ok_flags hbok).1
      rcases flags_ways hf0 hf7 with hfl | hfl | hfl | hfl | hfl | hfl | hfl | hfl
      · have SN := Seg.hid (stp_no (s := rs) (b := t) (by simp [mk, hfl]) (by simp [op, hfl]))
        have c5 : wi.cell? ⟨pr, 5, none⟩ = some (.int .i64 0) := by rw [← hfl]; exact cell_of_row wi _ 5 _ _ (0, 0) RI.out
        clear hfl
        go_wp2
        go_roundw
        case rel => exact ⟨k + 1, stp rs t, by omega, SX.out.symm, un_step UU.out t, by go_num, by rw [SN.out]; exact OI.out⟩
        case measure => simp [intOf]; omega
      · have SN := Seg.hid (stp_no (s := rs) (b := t) (by simp [mk, hfl]) (by simp [op, hfl]))
        have c5 : wi.cell? ⟨pr, 5, none⟩ = some (.int .i64 1) := by rw [← hfl]; exact cell_of_row wi _ 5 _ _ (0, 0) RI.out
        clear hfl
        go_wp2
        go_roundw
        case rel => exact ⟨k + 1, stp rs t, by omega, SX.out.symm, un_step UU.out t, by go_num, by rw [SN.out]; exact OI.out⟩
        case measure => simp [intOf]; omega
      · have hmk : Hid (mk t = false) := by show _ = _; simp [mk, hfl]
        have hop : Hid (op t = true) := by show _ = _; simp [op, hfl]
        rw [hfl] at RI
        have c5 : wi.cell? ⟨pr, 5, none⟩ = some (.int .i64 2) := cell_of_row wi _ 5 _ _ (0, 0) RI.out
        clear hfl
        go_wp2_with fail
        go_loopw [8, 9] (fun a i wx => ∃ (j : Nat), j ≤ rs.1.length ∧ a = .int .i64 (ix t.producer rs.1 j) ∧ i = .int .i64 j ∧ Hid (Qt wi wx)) (fun _ i _ => rs.1.length - (intOf i).toNat)
        case atStart => exact ⟨0, Nat.zero_le _, rfl, rfl, ⟨rfl, rfl, rfl, rfl⟩⟩
        case round =>
          obtain ⟨j, hj, rfl, rfl, HW⟩ := hrel
          have R2 := Seg.hid ((HW.out.bel wi.heap.size).block pr hpr |>.trans RI.out)
          have O2 := Seg.hid (OI.out.next (HW.out.bel _))
          have c2 : wr.cell? ⟨pr, 2, none⟩ = some (.int .i64 t.producer) := cell_of_row wr _ 2 _ _ (0, 0) R2.out
          have hsl : ∃ Ao co, ov = .slice Ao rs.1.length co := by
            rcases O2.out.r1.2 with ⟨h1, h0⟩ | ⟨g, cap, cur, h1, _⟩
            · exact ⟨none, 0, by rw [h1, h0]⟩
            · exact ⟨_, _, h1⟩
          obtain ⟨Ao, co, rfl⟩ := hsl
          by_cases hlj : j < rs.1.length
          · obtain ⟨g2, cap, e2, hcp, hg2, x0, x1⟩ := row_gon O2.out.r1 hlj
            simp only [Value.slice.injEq, true_and] at e2
            obtain ⟨rfl, rfl⟩ := e2
            have j0 : (0 : Int) ≤ (j : Int) := by omega
            have j1 : (j : Int) < (rs.1.length : Int) := by omega
            have IXS : Hid (ix t.producer rs.1 (j + 1) = if (rs.1.getD j default).producer = t.producer then (j : Int) else ix t.producer rs.1 j) := rfl
            generalize rs.1.getD j default = gj at *
            by_cases hpj : gj.producer = t.producer
            · have hb : (gj.producer == t.producer) = true := by simp [hpj]
              have EX : Hid (ix t.producer rs.1 (j + 1) = (j : Int)) := by show _ = _; rw [IXS.out, if_pos hpj]
              clear hpj
              go_wp2_with fail
              go_quiet (fail)
              go_wp2
              go_roundw
              case rel => exact ⟨j + 1, by omega, by rw [EX.out], by go_num, HW.out.drewN _⟩
              case measure => simp [intOf]; omega
            · have hb : (gj.producer == t.producer) = false := by simp [hpj]
              have EX : Hid (ix t.producer rs.1 (j + 1) = ix t.producer rs.1 j) := by show _ = _; rw [IXS.out, if_neg hpj]
              clear hpj
              go_wp2_with fail
              go_quiet (fail)
              go_wp2
              go_roundw
              case rel => exact ⟨j + 1, by omega, by rw [EX.out], by go_num, HW.out.drewN _⟩
              case measure => simp [intOf]; omega
          · have hj' : rs.1.length = j := by omega
            subst hj'
            have c0 : wr.cell? ⟨pr, 0, none⟩ = some (.int .i64 t.base) := cell_of_row wr _ 0 _ _ (0, 0) R2.out
            have c5 : wr.cell? ⟨pr, 5, none⟩ = some (.int .i64 2) := cell_of_row wr _ 5 _ _ (0, 0) R2.out
            have hpw : pr < wr.heap.size := (Array.getElem?_eq_some_iff.1 R2.out).1
            cases hfn : fnd t.producer rs.1 with
            | none =>
              have EI := ix_none hfn rs.1.length (Nat.le_refl _)
              rw [EI]
              have SN := Seg.hid (stp_open hmk.out hop.out hfn)
              clear hfn EI
              have OW : Hid (∀ ob, (wr.alloc ob).ownsRow w.heap.size 50 3 (.slice Ao rs.1.length co) rs.1.length (gcells rs.1)) := fun ob => Seg.owns_below O2.out.r1 (below1 wr ob)
              have hBw : w.heap.size ≤ wr.heap.size := O2.out.bel.size
              go_wp2_with (at_builtin; refine wpList_append_lies _ rfl _ _ 41 rfl w.heap.size 50 i0 _ 3 24 Try.underlying41 hi hz0 hz1 hz2 rfl (by decide) (.slice Ao rs.1.length co) rs.1.length (gcells rs.1) rfl (OW.out _) ⟨wr.heap.size, 0, none⟩ 1 1 [.int .i64 t.producer, .int .i64 t.base, .int .i64 0] rfl rfl (World.news_of_block (cs := #[.int .i64 t.producer, .int .i64 t.base, .int .i64 0]) (heap_alloc_new wr _)) (by simp [Value.oneCell']) (by decide) (by unfold maxLen; omega) (by omega) (by rw [hsz]; omega) (wr.heap.size + 1) (hsz wr _) ?_; intro g9 cap9 w9 hown9 gr9 hat9 hlt9; have D9 := Seg.hid (O2.out.more (g := ⟨t.producer, t.base, 0⟩) (below1 wr _) hown9 gr9 (hat9.elim (fun e => .inl (by rw [e]; rfl)) (fun e => .inr ⟨g9, rfl, by omega⟩))); clear hown9 gr9 hat9 hlt9)
              go_roundw
              case rel => exact ⟨k + 1, stp rs t, by omega, SX.out.symm, un_step UU.out t, by go_num, by rw [SN.out]; exact D9.out⟩
              case measure => simp [intOf]; omega
            | some f =>
              obtain ⟨i, hi1, hi2, _⟩ := ix_some UU.out hfn
              rw [hi2]
              have hi3 : ¬ (i : Int) < 0 := by omega
              have SN := Seg.hid (stp_under hmk.out (by rw [hfn]; simp) : stp rs t = rs)
              clear hfn hi2
              go_wp2
              go_roundw
              case rel => exact ⟨k + 1, stp rs t, by omega, SX.out.symm, un_step UU.out t, by go_num, by rw [SN.out]; exact O2.out⟩
              case measure => simp [intOf]; omega
      · have hmk : Hid (mk t = false) := by show _ = _; simp [mk, hfl]
        have hop : Hid (op t = true) := by show _ = _; simp [op, hfl]
        rw [hfl] at RI
        have c5 : wi.cell? ⟨pr, 5, none⟩ = some (.int .i64 3) := cell_of_row wi _ 5 _ _ (0, 0) RI.out
        clear hfl
        go_wp2_with fail
        go_loopw [8, 9] (fun a i wx => ∃ (j : Nat), j ≤ rs.1.length ∧ a = .int .i64 (ix t.producer rs.1 j) ∧ i = .int .i64 j ∧ Hid (Qt wi wx)) (fun _ i _ => rs.1.length - (intOf i).toNat)
        case atStart => exact ⟨0, Nat.zero_le _, rfl, rfl, ⟨rfl, rfl, rfl, rfl⟩⟩
        case round =>
          obtain ⟨j, hj, rfl, rfl, HW⟩ := hrel
          have R2 := Seg.hid ((HW.out.bel wi.heap.size).block pr hpr |>.trans RI.out)
          have O2 := Seg.hid (OI.out.next (HW.out.bel _))
          have c2 : wr.cell? ⟨pr, 2, none⟩ = some (.int .i64 t.producer) := cell_of_row wr _ 2 _ _ (0, 0) R2.out
          have hsl : ∃ Ao co, ov = .slice Ao rs.1.length co := by
            rcases O2.out.r1.2 with ⟨h1, h0⟩ | ⟨g, cap, cur, h1, _⟩
            · exact ⟨none, 0, by rw [h1, h0]⟩
            · exact ⟨_, _, h1⟩
          obtain ⟨Ao, co, rfl⟩ := hsl
          by_cases hlj : j < rs.1.length
          · obtain ⟨g2, cap, e2, hcp, hg2, x0, x1⟩ := row_gon O2.out.r1 hlj
            simp only [Value.slice.injEq, true_and] at e2
            obtain ⟨rfl, rfl⟩ := e2
            have j0 : (0 : Int) ≤ (j : Int) := by omega
            have j1 : (j : Int) < (rs.1.length : Int) := by omega
            have IXS : Hid (ix t.producer rs.1 (j + 1) = if (rs.1.getD j default).producer = t.producer then (j : Int) else ix t.producer rs.1 j) := rfl
            generalize rs.1.getD j default = gj at *
            by_cases hpj : gj.producer = t.producer
            · have hb : (gj.producer == t.producer) = true := by simp [hpj]
              have EX : Hid (ix t.producer rs.1 (j + 1) = (j : Int)) := by show _ = _; rw [IXS.out, if_pos hpj]
              clear hpj
              go_wp2_with fail
              go_quiet (fail)
              go_wp2
              go_roundw
              case rel => exact ⟨j + 1, by omega, by rw [EX.out], by go_num, HW.out.drewN _⟩
              case measure => simp [intOf]; omega
            · have hb : (gj.producer == t.producer) = false := by simp [hpj]
              have EX : Hid (ix t.producer rs.1 (j + 1) = ix t.producer rs.1 j) := by show _ = _; rw [IXS.out, if_neg hpj]
              clear hpj
              go_wp2_with fail
              go_quiet (fail)
              go_wp2
              go_roundw
              case rel => exact ⟨j + 1, by omega, by rw [EX.out], by go_num, HW.out.drewN _⟩
              case measure => simp [intOf]; omega
          · have hj' : rs.1.length = j := by omega
            subst hj'
            have c0 : wr.cell? ⟨pr, 0, none⟩ = some (.int .i64 t.base) := cell_of_row wr _ 0 _ _ (0, 0) R2.out
            have c5 : wr.cell? ⟨pr, 5, none⟩ = some (.int .i64 3) := cell_of_row wr _ 5 _ _ (0, 0) R2.out
            have hpw : pr < wr.heap.size := (Array.getElem?_eq_some_iff.1 R2.out).1
            cases hfn : fnd t.producer rs.1 with
            | none =>
              have EI := ix_none hfn rs.1.length (Nat.le_refl _)
              rw [EI]
              have SN := Seg.hid (stp_open hmk.out hop.out hfn)
              clear hfn EI
              have OW : Hid (∀ ob, (wr.alloc ob).ownsRow w.heap.size 50 3 (.slice Ao rs.1.length co) rs.1.length (gcells rs.1)) := fun ob => Seg.owns_below O2.out.r1 (below1 wr ob)
              have hBw : w.heap.size ≤ wr.heap.size := O2.out.bel.size
              go_wp2_with (at_builtin; refine wpList_append_lies _ rfl _ _ 41 rfl w.heap.size 50 i0 _ 3 24 Try.underlying41 hi hz0 hz1 hz2 rfl (by decide) (.slice Ao rs.1.length co) rs.1.length (gcells rs.1) rfl (OW.out _) ⟨wr.heap.size, 0, none⟩ 1 1 [.int .i64 t.producer, .int .i64 t.base, .int .i64 0] rfl rfl (World.news_of_block (cs := #[.int .i64 t.producer, .int .i64 t.base, .int .i64 0]) (heap_alloc_new wr _)) (by simp [Value.oneCell']) (by decide) (by unfold maxLen; omega) (by omega) (by rw [hsz]; omega) (wr.heap.size + 1) (hsz wr _) ?_; intro g9 cap9 w9 hown9 gr9 hat9 hlt9; have D9 := Seg.hid (O2.out.more (g := ⟨t.producer, t.base, 0⟩) (below1 wr _) hown9 gr9 (hat9.elim (fun e => .inl (by rw [e]; rfl)) (fun e => .inr ⟨g9, rfl, by omega⟩))); clear hown9 gr9 hat9 hlt9)
              go_roundw
              case rel => exact ⟨k + 1, stp rs t, by omega, SX.out.symm, un_step UU.out t, by go_num, by rw [SN.out]; exact D9.out⟩
              case measure => simp [intOf]; omega
            | some f =>
              obtain ⟨i, hi1, hi2, _⟩ := ix_some UU.out hfn
              rw [hi2]
              have hi3 : ¬ (i : Int) < 0 := by omega
              have SN := Seg.hid (stp_under hmk.out (by rw [hfn]; simp) : stp rs t = rs)
              clear hfn hi2
              go_wp2
              go_roundw
              case rel => exact ⟨k + 1, stp rs t, by omega, SX.out.symm, un_step UU.out t, by go_num, by rw [SN.out]; exact O2.out⟩
              case measure => simp [intOf]; omega
      · exact absurd (op_of_mk hbok (by simp [mk, hfl])) (by simp [op, hfl])
      · exact absurd (op_of_mk hbok (by simp [mk, hfl])) (by simp [op, hfl])
      · have hmk : Hid (mk t = true) := by show _ = _; simp [mk, hfl]
        have hop : Hid (op t = true) := by show _ = _; simp [op, hfl]
        rw [hfl] at RI
        have c5 : wi.cell? ⟨pr, 5, none⟩ = some (.int .i64 6) := cell_of_row wi _ 5 _ _ (0, 0) RI.out
        clear hfl
        go_wp2_with fail
        go_loopw [8, 9] (fun a i wx => ∃ (j : Nat), j ≤ rs.1.length ∧ a = .int .i64 (ix t.producer rs.1 j) ∧ i = .int .i64 j ∧ Hid (Qt wi wx)) (fun _ i _ => rs.1.length - (intOf i).toNat)
        case atStart => exact ⟨0, Nat.zero_le _, rfl, rfl, ⟨rfl, rfl, rfl, rfl⟩⟩
        case round =>
          obtain ⟨j, hj, rfl, rfl, HW⟩ := hrel
          have R2 := Seg.hid ((HW.out.bel wi.heap.size).block pr hpr |>.trans RI.out)
          have O2 := Seg.hid (OI.out.next (HW.out.bel _))
          have c2 : wr.cell? ⟨pr, 2, none⟩ = some (.int .i64 t.producer) := cell_of_row wr _ 2 _ _ (0, 0) R2.out
          have hsl : ∃ Ao co, ov = .slice Ao rs.1.length co := by
            rcases O2.out.r1.2 with ⟨h1, h0⟩ | ⟨g, cap, cur, h1, _⟩
            · exact ⟨none, 0, by rw [h1, h0]⟩
            · exact ⟨_, _, h1⟩
          obtain ⟨Ao, co, rfl⟩ := hsl
          by_cases hlj : j < rs.1.length
          · obtain ⟨g2, cap, e2, hcp, hg2, x0, x1⟩ := row_gon O2.out.r1 hlj
            simp only [Value.slice.injEq, true_and] at e2
            obtain ⟨rfl, rfl⟩ := e2
            have j0 : (0 : Int) ≤ (j : Int) := by omega
            have j1 : (j : Int) < (rs.1.length : Int) := by omega
            have IXS : Hid (ix t.producer rs.1 (j + 1) = if (rs.1.getD j default).producer = t.producer then (j : Int) else ix t.producer rs.1 j) := rfl
            generalize rs.1.getD j default = gj at *
            by_cases hpj : gj.producer = t.producer
            · have hb : (gj.producer == t.producer) = true := by simp [hpj]
              have EX : Hid (ix t.producer rs.1 (j + 1) = (j : Int)) := by show _ = _; rw [IXS.out, if_pos hpj]
              clear hpj
              go_wp2_with fail
              go_quiet (fail)
              go_wp2
              go_roundw
              case rel => exact ⟨j + 1, by omega, by rw [EX.out], by go_num, HW.out.drewN _⟩
              case measure => simp [intOf]; omega
            · have hb : (gj.producer == t.producer) = false := by simp [hpj]
              have EX : Hid (ix t.producer rs.1 (j + 1) = ix t.producer rs.1 j) := by show _ = _; rw [IXS.out, if_neg hpj]
              clear hpj
              go_wp2_with fail
              go_quiet (fail)
              go_wp2
              go_roundw
              case rel => exact ⟨j + 1, by omega, by rw [EX.out], by go_num, HW.out.drewN _⟩
              case measure => simp [intOf]; omega
          · have hj' : rs.1.length = j := by omega
            subst hj'
            have c0 : wr.cell? ⟨pr, 0, none⟩ = some (.int .i64 t.base) := cell_of_row wr _ 0 _ _ (0, 0) R2.out
            have c5 : wr.cell? ⟨pr, 5, none⟩ = some (.int .i64 6) := cell_of_row wr _ 5 _ _ (0, 0) R2.out
            have hpw : pr < wr.heap.size := (Array.getElem?_eq_some_iff.1 R2.out).1
            cases hfn : fnd t.producer rs.1 with
            | none =>
              have EI := ix_none hfn rs.1.length (Nat.le_refl _)
              rw [EI]
              have SN := Seg.hid (stp_idle hmk.out hfn)
              clear hfn EI
              go_wp2
              go_roundw
              case rel => exact ⟨k + 1, stp rs t, by omega, SX.out.symm, un_step UU.out t, by go_num, by rw [SN.out]; exact O2.out⟩
              case measure => simp [intOf]; omega
            | some f =>
              obtain ⟨i, hi1, hi2, hi4, hi5⟩ := ix_some UU.out hfn
              rw [hi2]
              have hi3 : ¬ (i : Int) < 0 := by omega
              have SN := Seg.hid (stp_end hmk.out hfn)
              clear hfn hi2
              obtain ⟨g2, cap, e2, hcp, hg2, x0, x1⟩ := row_gon O2.out.r1 hi1
              simp only [Value.slice.injEq, true_and] at e2
              obtain ⟨rfl, rfl⟩ := e2
              rw [hi4] at x1
              have CEL : Hid (∀ q, q < rs.1.length * 3 → wr.cell? ⟨g2, q, none⟩ = some ((gcells rs.1).getD q default)) := by
                obtain ⟨g3, cap3, e3, _, _, h3⟩ := row_at O2.out.r1 (by omega)
                simp only [Value.slice.injEq, Option.some.injEq, Addr.mk.injEq, true_and, and_true] at e3
                obtain ⟨rfl, rfl⟩ := e3
                exact h3
              obtain ⟨Ag, cg, hgv⟩ : ∃ Ag cg, gv = .slice Ag rs.2.length cg := by
                rcases O2.out.r2.2 with ⟨h1, h0⟩ | ⟨g, cap, cur, h1, _⟩
                · exact ⟨none, 0, by rw [h1, h0]⟩
                · exact ⟨_, _, h1⟩
              subst hgv
              have hlen : 1 ≤ t.recs.length := by have := (LgP.okLen hbok).2.2.1; omega
              obtain ⟨g6, o6, e6, hg6, hc6, hcell6, _⟩ := RK.out.resolve_left (by omega)
              subst e6
              have kk : wr.cell? ⟨g6, o6 + 2, none⟩ = some (.string (key0 t)) := by
                have h1 := hcell6 0 (by omega) 2 (by omega)
                rw [show o6 + 0 * 6 + 2 = o6 + 2 by omega] at h1
                rw [O2.out.bel.cell (p := ⟨g6, o6 + 2, none⟩) (by show g6 < _; omega)]
                exact h1
              have c6f : wr.cell? ⟨pr, 6, none⟩ = some (.slice (some ⟨g6, o6, none⟩) t.recs.length c6) := cell_of_row wr _ 6 _ _ (0, 0) R2.out
              have lg6 : g6 < wr.heap.size := by have := O2.out.bel.size; omega
              have n0 : (0 : Int) < (t.recs.length : Int) := by omega
              have n1 : 0 < t.recs.length := by omega
              have i0' : (0 : Int) ≤ (i : Int) := by omega
              have i1' : (i : Int) < (rs.1.length : Int) := by omega
              have ic : ¬ co < i := by omega
              have ic2 : i ≤ co := by omega
              have ic3 : i + 1 ≤ rs.1.length := by omega
              have ic4 : ((i + 1 : Nat) : Int) ≤ (rs.1.length : Int) := by omega
              have ic1 : (i : Int) + 1 ≤ (rs.1.length : Int) := by omega
              have ic5 : IntKind.i64.wrap ((i : Int) + 1) = (i : Int) + 1 := by rw [IntKind.wrap_i64]; omega
              have ic6 : (0 : Int) ≤ (i : Int) + 1 := by omega
              have ic7 : ((i : Int) + 1).toNat = i + 1 := by omega
              have AB : Hid (abort t = decide ((key0 t).toList = [97, 98, 111, 114, 116])) := rfl
              clear hcell6
              generalize key0 t = ky at *
              by_cases hab : ky.toList = [97, 98, 111, 114, 116]
              · have hb2 : (ky.toList == [97, 98, 111, 114, 116]) = true := by simp [hab]
                have S2 : Hid (stp rs t = (rs.1.take i ++ rs.1.drop (i + 1), rs.2 ++ [⟨t.producer, f, t.base⟩])) := by show _ = _; rw [SN.out, hi5, AB.out]; simp [hab]
                clear hab
                go_wp2_with fail
                have b19 : Hid (∀ ob, Below wr.heap.size wr (wr.drew.alloc ob)) := fun ob => (fun b => ⟨b.os, b.tape, b.output, b.size, b.block⟩) (below1 wr.drew ob)
                have OWG : Hid (∀ ob, (wr.drew.alloc ob).ownsRow w.heap.size 50 3 (.slice Ag rs.2.length cg) rs.2.length (gcells rs.2)) := fun ob => Seg.owns_below O2.out.r2 (b19.out ob)
                have hBr : w.heap.size ≤ wr.heap.size := O2.out.bel.size
                go_region_law
                  ((first | (refine step_append_lies _ (by rfl) _ _ _ (by rfl) w.heap.size 50 i0 _ 3 24 Try.underlying41 hi hz0 hz1 hz2 rfl (by decide) (.slice Ag rs.2.length cg) rs.2.length (gcells rs.2) (by rfl) (OWG.out _) ⟨wr.heap.size, 0, none⟩ 1 1 [.int .i64 t.producer, .int .i64 f, .int .i64 t.base] (by rfl) (by rfl) (World.news_of_block (cs := #[.int .i64 t.producer, .int .i64 f, .int .i64 t.base]) (heap_alloc_new wr.drew _)) (by simp [Value.oneCell']) (by decide) (by unfold maxLen; omega) (by omega) (Nat.le_trans hBr (Nat.le_trans (Nat.le_succ _) (Nat.le_of_eq (hsz wr.drew _).symm))) (wr.heap.size + 1) (hsz wr.drew _) ?_; intro gq capq wq hownq grq hatq hltq; have Dq := Seg.hid (O2.out.abort (g := ⟨t.producer, f, t.base⟩) (b19.out _) hownq grq (hatq.elim (fun e => .inl (by rw [e]; rfl)) (fun e => .inr ⟨gq, rfl, by omega⟩))); clear hownq grq hatq hltq)))
                all_goals
                  clear OWG b19 x0 x1 kk c6f c0 c2 c5 lg6 RK CEL
                  go_wp2_with fail
                  have hBW : w.heap.size ≤ wq.heap.size := Dq.out.bel.size
                  obtain ⟨g3, cap3, e3, _, hg3, CE0⟩ := row_at Dq.out.r1 (by omega)
                  simp only [Value.slice.injEq, Option.some.injEq, Addr.mk.injEq, true_and, and_true] at e3
                  obtain ⟨rfl, rfl⟩ := e3
                  have CE := Seg.hid CE0
                  clear CE0
                  have OE : Hid ((wq.alloc (.cells #[] 50 (0, 0))).drew.ownsRow wq.heap.size 50 3 (.slice (some ⟨wq.heap.size, 0, none⟩) 0 0) 0 []) := ⟨rfl, .inr ⟨_, 0, #[], rfl, Nat.le_refl _, heap_alloc_new _ _, Nat.le_refl _, by unfold maxLen; omega, rfl, rfl⟩⟩
                  have BE : Hid (Below wq.heap.size wq (wq.alloc (.cells #[] 50 (0, 0))).drew) := (fun b => ⟨b.os, b.tape, b.output, b.size, b.block⟩) (below1 wq (.cells #[] 50 (0, 0)))
                  have N1 : Hid (∀ wx, Below wq.heap.size wq wx → i ≠ 0 → ∃ ad, (some ⟨g2, 0, none⟩ : Option Addr) = some ad ∧ ∀ j u, (gcells (rs.1.take i))[j]? = some u → wx.cell? (ad.add j) = some u) := fun wx bx _ => ⟨_, rfl, fun j u hu => by
                    obtain ⟨h1, h2⟩ := take_cells (by omega) hu
                    rw [add_off, Nat.zero_add, bx.cell (p := ⟨g2, j, none⟩) hg3, CE.out j h1, h2]⟩
                  have N2 : Hid (∀ wx, Below wq.heap.size wq wx → ∀ j u, (gcells (rs.1.drop (i + 1)))[j]? = some u → wx.cell? ((⟨g2, (i + 1) * 3, none⟩ : Addr).add j) = some u) := fun wx bx j u hu => by
                    obtain ⟨h1, h2⟩ := drop_cells (by omega) hu
                    rw [add_off, bx.cell (p := ⟨g2, (i + 1) * 3 + j, none⟩) hg3, CE.out _ h1, h2]
                  have L1 : Hid ((gcells (rs.1.take i)).length = i * 3) := by show _ = _; rw [gcells_len, List.length_take, Nat.min_eq_left (by omega)]
                  have L2 : Hid ((gcells (rs.1.drop (i + 1))).length = (rs.1.length - (i + 1)) * 3) := by show _ = _; rw [gcells_len, List.length_drop]
                  have U1 := Seg.hid (gcells_one (rs.1.take i))
                  have U2 := Seg.hid (gcells_one (rs.1.drop (i + 1)))
                  go_region_law
                    ((first | (refine step_append_all _ (by rfl) _ _ _ (by rfl) wq.heap.size 50 i0 _ 3 24 Try.underlying41 hi hz0 hz1 hz2 rfl (by decide) (.slice (some ⟨wq.heap.size, 0, none⟩) 0 0) 0 [] (by rfl) OE.out (some ⟨g2, 0, none⟩) i co (gcells (rs.1.take i)) (by rfl) L1.out (N1.out _ BE.out) U1.out (by unfold maxLen; omega) (by omega) (by show _ ≤ (wq.alloc _).heap.size; rw [hsz]; exact Nat.le_succ _) ?_; intro v9 w9 hown9 gr9 hat9; have O9 := Seg.hid hown9; have H9 := Seg.hid hat9; have B9 : Hid (Below wq.heap.size wq w9) := bel_grow (ov := .slice (some ⟨wq.heap.size, 0, none⟩) 0 0) (Below.refl _ _) (Nat.le_refl _) BE.out gr9 (fun x hx => by cases hx; exact Nat.le_refl _); clear hown9 gr9 hat9) | (go_loud (refine step_append_all _ (by rfl) _ _ _ (by rfl) wq.heap.size 50 i0 _ 3 24 Try.underlying41 hi hz0 hz1 hz2 rfl (by decide) v9 (0 + i) ([] ++ gcells (rs.1.take i)) (by rfl) O9.out _ (rs.1.length - (i + 1)) _ (gcells (rs.1.drop (i + 1))) (by rfl) L2.out (fun hne => ⟨⟨g2, (i + 1) * 3, none⟩, by rw [if_neg (by omega)], N2.out _ B9.out⟩) U2.out (by unfold maxLen; omega) (by omega) (Nat.le_trans (Nat.le_refl _) B9.out.size) ?_); intro v10 w10 hown10 gr10 hat10; have D10 := Seg.hid (Dq.out.swap2 hi1 B9.out O9.out gr10 hown10); clear hown10 gr10 hat10)))
                  all_goals
                    clear OE BE N1 N2 L1 L2 U1 U2 O9 H9 B9 CE
                    go_wp2
                    go_roundw
                    case rel => exact ⟨k + 1, stp rs t, by omega, SX.out.symm, un_step UU.out t, by go_num, by rw [S2.out]; exact D10.out⟩
                    case measure => simp [intOf]; omega
              · have hb2 : (ky.toList == [97, 98, 111, 114, 116]) = false := beq_false_of_ne hab
                have S2 : Hid (stp rs t = (rs.1.take i ++ rs.1.drop (i + 1), rs.2)) := by show _ = _; rw [SN.out, hi5, AB.out]; simp [hab]
                clear hab
                go_wp2_with fail
                have hBW : w.heap.size ≤ wr.heap.size := O2.out.bel.size
                obtain ⟨g3, cap3, e3, _, hg3, CE0⟩ := row_at O2.out.r1 (by omega)
                simp only [Value.slice.injEq, Option.some.injEq, Addr.mk.injEq, true_and, and_true] at e3
                obtain ⟨rfl, rfl⟩ := e3
                have CE := Seg.hid CE0
                clear CE0
                have OE : Hid ((wr.alloc (.cells #[] 50 (0, 0))).drew.ownsRow wr.heap.size 50 3 (.slice (some ⟨wr.heap.size, 0, none⟩) 0 0) 0 []) := ⟨rfl, .inr ⟨_, 0, #[], rfl, Nat.le_refl _, heap_alloc_new _ _, Nat.le_refl _, by unfold maxLen; omega, rfl, rfl⟩⟩
                have BE : Hid (Below wr.heap.size wr (wr.alloc (.cells #[] 50 (0, 0))).drew) := (fun b => ⟨b.os, b.tape, b.output, b.size, b.block⟩) (below1 wr (.cells #[] 50 (0, 0)))
                have N1 : Hid (∀ wx, Below wr.heap.size wr wx → i ≠ 0 → ∃ ad, (some ⟨g2, 0, none⟩ : Option Addr) = some ad ∧ ∀ j u, (gcells (rs.1.take i))[j]? = some u → wx.cell? (ad.add j) = some u) := fun wx bx _ => ⟨_, rfl, fun j u hu => by
                  obtain ⟨h1, h2⟩ := take_cells (by omega) hu
                  rw [add_off, Nat.zero_add, bx.cell (p := ⟨g2, j, none⟩) hg3, CE.out j h1, h2]⟩
                have N2 : Hid (∀ wx, Below wr.heap.size wr wx → ∀ j u, (gcells (rs.1.drop (i + 1)))[j]? = some u → wx.cell? ((⟨g2, (i + 1) * 3, none⟩ : Addr).add j) = some u) := fun wx bx j u hu => by
                  obtain ⟨h1, h2⟩ := drop_cells (by omega) hu
                  rw [add_off, bx.cell (p := ⟨g2, (i + 1) * 3 + j, none⟩) hg3, CE.out _ h1, h2]
                have L1 : Hid ((gcells (rs.1.take i)).length = i * 3) := by show _ = _; rw [gcells_len, List.length_take, Nat.min_eq_left (by omega)]
                have L2 : Hid ((gcells (rs.1.drop (i + 1))).length = (rs.1.length - (i + 1)) * 3) := by show _ = _; rw [gcells_len, List.length_drop]
                have U1 := Seg.hid (gcells_one (rs.1.take i))
                have U2 := Seg.hid (gcells_one (rs.1.drop (i + 1)))
                go_region_law
                  ((first | (refine step_append_all _ (by rfl) _ _ _ (by rfl) wr.heap.size 50 i0 _ 3 24 Try.underlying41 hi hz0 hz1 hz2 rfl (by decide) (.slice (some ⟨wr.heap.size, 0, none⟩) 0 0) 0 [] (by rfl) OE.out (some ⟨g2, 0, none⟩) i co (gcells (rs.1.take i)) (by rfl) L1.out (N1.out _ BE.out) U1.out (by unfold maxLen; omega) (by omega) (by show _ ≤ (wr.alloc _).heap.size; rw [hsz]; exact Nat.le_succ _) ?_; intro v9 w9 hown9 gr9 hat9; have O9 := Seg.hid hown9; have H9 := Seg.hid hat9; have B9 : Hid (Below wr.heap.size wr w9) := bel_grow (ov := .slice (some ⟨wr.heap.size, 0, none⟩) 0 0) (Below.refl _ _) (Nat.le_refl _) BE.out gr9 (fun x hx => by cases hx; exact Nat.le_refl _); clear hown9 gr9 hat9) | (go_loud (refine step_append_all _ (by rfl) _ _ _ (by rfl) wr.heap.size 50 i0 _ 3 24 Try.underlying41 hi hz0 hz1 hz2 rfl (by decide) v9 (0 + i) ([] ++ gcells (rs.1.take i)) (by rfl) O9.out _ (rs.1.length - (i + 1)) _ (gcells (rs.1.drop (i + 1))) (by rfl) L2.out (fun hne => ⟨⟨g2, (i + 1) * 3, none⟩, by rw [if_neg (by omega)], N2.out _ B9.out⟩) U2.out (by unfold maxLen; omega) (by omega) (Nat.le_trans (Nat.le_refl _) B9.out.size) ?_); intro v10 w10 hown10 gr10 hat10; have D10 := Seg.hid (O2.out.swap2 hi1 B9.out O9.out gr10 hown10); clear hown10 gr10 hat10)))
                all_goals
                  clear OE BE N1 N2 L1 L2 U1 U2 O9 H9 B9 CE
                  go_wp2
                  go_roundw
                  case rel => exact ⟨k + 1, stp rs t, by omega, SX.out.symm, un_step UU.out t, by go_num, by rw [S2.out]; exact D10.out⟩
                  case measure => simp [intOf]; omega
      · have hmk : Hid (mk t = true) := by show _ = _; simp [mk, hfl]
        have hop : Hid (op t = true) := by show _ = _; simp [op, hfl]
        rw [hfl] at RI
        have c5 : wi.cell? ⟨pr, 5, none⟩ = some (.int .i64 7) := cell_of_row wi _ 5 _ _ (0, 0) RI.out
        clear hfl
        go_wp2_with fail
        go_loopw [8, 9] (fun a i wx => ∃ (j : Nat), j ≤ rs.1.length ∧ a = .int .i64 (ix t.producer rs.1 j) ∧ i = .int .i64 j ∧ Hid (Qt wi wx)) (fun _ i _ => rs.1.length - (intOf i).toNat)
        case atStart => exact ⟨0, Nat.zero_le _, rfl, rfl, ⟨rfl, rfl, rfl, rfl⟩⟩
        case round =>
          obtain ⟨j, hj, rfl, rfl, HW⟩ := hrel
          have R2 := Seg.hid ((HW.out.bel wi.heap.size).block pr hpr |>.trans RI.out)
          have O2 := Seg.hid (OI.out.next (HW.out.bel _))
          have c2 : wr.cell? ⟨pr, 2, none⟩ = some (.int .i64 t.producer) := cell_of_row wr _ 2 _ _ (0, 0) R2.out
          have hsl : ∃ Ao co, ov = .slice Ao rs.1.length co := by
            rcases O2.out.r1.2 with ⟨h1, h0⟩ | ⟨g, cap, cur, h1, _⟩
            · exact ⟨none, 0, by rw [h1, h0]⟩
            · exact ⟨_, _, h1⟩
          obtain ⟨Ao, co, rfl⟩ := hsl
          by_cases hlj : j < rs.1.length
          · obtain ⟨g2, cap, e2, hcp, hg2, x0, x1⟩ := row_gon O2.out.r1 hlj
            simp only [Value.slice.injEq, true_and] at e2
            obtain ⟨rfl, rfl⟩ := e2
            have j0 : (0 : Int) ≤ (j : Int) := by omega
            have j1 : (j : Int) < (rs.1.length : Int) := by omega
            have IXS : Hid (ix t.producer rs.1 (j + 1) = if (rs.1.getD j default).producer = t.producer then (j : Int) else ix t.producer rs.1 j) := rfl
            generalize rs.1.getD j default = gj at *
            by_cases hpj : gj.producer = t.producer
            · have hb : (gj.producer == t.producer) = true := by simp [hpj]
              have EX : Hid (ix t.producer rs.1 (j + 1) = (j : Int)) := by show _ = _; rw [IXS.out, if_pos hpj]
              clear hpj
              go_wp2_with fail
              go_quiet (fail)
              go_wp2
              go_roundw
              case rel => exact ⟨j + 1, by omega, by rw [EX.out], by go_num, HW.out.drewN _⟩
              case measure => simp [intOf]; omega
            · have hb : (gj.producer == t.producer) = false := by simp [hpj]
              have EX : Hid (ix t.producer rs.1 (j + 1) = ix t.producer rs.1 j) := by show _ = _; rw [IXS.out, if_neg hpj]
              clear hpj
              go_wp2_with fail
              go_quiet (fail)
              go_wp2
              go_roundw
              case rel => exact ⟨j + 1, by omega, by rw [EX.out], by go_num, HW.out.drewN _⟩
              case measure => simp [intOf]; omega
          · have hj' : rs.1.length = j := by omega
            subst hj'
            have c0 : wr.cell? ⟨pr, 0, none⟩ = some (.int .i64 t.base) := cell_of_row wr _ 0 _ _ (0, 0) R2.out
            have c5 : wr.cell? ⟨pr, 5, none⟩ = some (.int .i64 7) := cell_of_row wr _ 5 _ _ (0, 0) R2.out
            have hpw : pr < wr.heap.size := (Array.getElem?_eq_some_iff.1 R2.out).1
            cases hfn : fnd t.producer rs.1 with
            | none =>
              have EI := ix_none hfn rs.1.length (Nat.le_refl _)
              rw [EI]
              have SN := Seg.hid (stp_idle hmk.out hfn)
              clear hfn EI
              go_wp2
              go_roundw
              case rel => exact ⟨k + 1, stp rs t, by omega, SX.out.symm, un_step UU.out t, by go_num, by rw [SN.out]; exact O2.out⟩
              case measure => simp [intOf]; omega
            | some f =>
              obtain ⟨i, hi1, hi2, hi4, hi5⟩ := ix_some UU.out hfn
              rw [hi2]
              have hi3 : ¬ (i : Int) < 0 := by omega
              have SN := Seg.hid (stp_end hmk.out hfn)
              clear hfn hi2
              obtain ⟨g2, cap, e2, hcp, hg2, x0, x1⟩ := row_gon O2.out.r1 hi1
              simp only [Value.slice.injEq, true_and] at e2
              obtain ⟨rfl, rfl⟩ := e2
              rw [hi4] at x1
              have CEL : Hid (∀ q, q < rs.1.length * 3 → wr.cell? ⟨g2, q, none⟩ = some ((gcells rs.1).getD q default)) := by
                obtain ⟨g3, cap3, e3, _, _, h3⟩ := row_at O2.out.r1 (by omega)
                simp only [Value.slice.injEq, Option.some.injEq, Addr.mk.injEq, true_and, and_true] at e3
                obtain ⟨rfl, rfl⟩ := e3
                exact h3
              obtain ⟨Ag, cg, hgv⟩ : ∃ Ag cg, gv = .slice Ag rs.2.length cg := by
                rcases O2.out.r2.2 with ⟨h1, h0⟩ | ⟨g, cap, cur, h1, _⟩
                · exact ⟨none, 0, by rw [h1, h0]⟩
                · exact ⟨_, _, h1⟩
              subst hgv
              have hlen : 1 ≤ t.recs.length := by have := (LgP.okLen hbok).2.2.1; omega
              obtain ⟨g6, o6, e6, hg6, hc6, hcell6, _⟩ := RK.out.resolve_left (by omega)
              subst e6
              have kk : wr.cell? ⟨g6, o6 + 2, none⟩ = some (.string (key0 t)) := by
                have h1 := hcell6 0 (by omega) 2 (by omega)
                rw [show o6 + 0 * 6 + 2 = o6 + 2 by omega] at h1
                rw [O2.out.bel.cell (p := ⟨g6, o6 + 2, none⟩) (by show g6 < _; omega)]
                exact h1
              have c6f : wr.cell? ⟨pr, 6, none⟩ = some (.slice (some ⟨g6, o6, none⟩) t.recs.length c6) := cell_of_row wr _ 6 _ _ (0, 0) R2.out
              have lg6 : g6 < wr.heap.size := by have := O2.out.bel.size; omega
              have n0 : (0 : Int) < (t.recs.length : Int) := by omega
              have n1 : 0 < t.recs.length := by omega
              have i0' : (0 : Int) ≤ (i : Int) := by omega
              have i1' : (i : Int) < (rs.1.length : Int) := by omega
              have ic : ¬ co < i := by omega
              have ic2 : i ≤ co := by omega
              have ic3 : i + 1 ≤ rs.1.length := by omega
              have ic4 : ((i + 1 : Nat) : Int) ≤ (rs.1.length : Int) := by omega
              have ic1 : (i : Int) + 1 ≤ (rs.1.length : Int) := by omega
              have ic5 : IntKind.i64.wrap ((i : Int) + 1) = (i : Int) + 1 := by rw [IntKind.wrap_i64]; omega
              have ic6 : (0 : Int) ≤ (i : Int) + 1 := by omega
              have ic7 : ((i : Int) + 1).toNat = i + 1 := by omega
              have AB : Hid (abort t = decide ((key0 t).toList = [97, 98, 111, 114, 116])) := rfl
              clear hcell6
              generalize key0 t = ky at *
              by_cases hab : ky.toList = [97, 98, 111, 114, 116]
              · have hb2 : (ky.toList == [97, 98, 111, 114, 116]) = true := by simp [hab]
                have S2 : Hid (stp rs t = (rs.1.take i ++ rs.1.drop (i + 1), rs.2 ++ [⟨t.producer, f, t.base⟩])) := by show _ = _; rw [SN.out, hi5, AB.out]; simp [hab]
                clear hab
                go_wp2_with fail
                have b19 : Hid (∀ ob, Below wr.heap.size wr (wr.drew.alloc ob)) := fun ob => (fun b => ⟨b.os, b.tape, b.output, b.size, b.block⟩) (below1 wr.drew ob)
                have OWG : Hid (∀ ob, (wr.drew.alloc ob).ownsRow w.heap.size 50 3 (.slice Ag rs.2.length cg) rs.2.length (gcells rs.2)) := fun ob => Seg.owns_below O2.out.r2 (b19.out ob)
                have hBr : w.heap.size ≤ wr.heap.size := O2.out.bel.size
                go_region_law
                  ((first | (refine step_append_lies _ (by rfl) _ _ _ (by rfl) w.heap.size 50 i0 _ 3 24 Try.underlying41 hi hz0 hz1 hz2 rfl (by decide) (.slice Ag rs.2.length cg) rs.2.length (gcells rs.2) (by rfl) (OWG.out _) ⟨wr.heap.size, 0, none⟩ 1 1 [.int .i64 t.producer, .int .i64 f, .int .i64 t.base] (by rfl) (by rfl) (World.news_of_block (cs := #[.int .i64 t.producer, .int .i64 f, .int .i64 t.base]) (heap_alloc_new wr.drew _)) (by simp [Value.oneCell']) (by decide) (by unfold maxLen; omega) (by omega) (Nat.le_trans hBr (Nat.le_trans (Nat.le_succ _) (Nat.le_of_eq (hsz wr.drew _).symm))) (wr.heap.size + 1) (hsz wr.drew _) ?_; intro gq capq wq hownq grq hatq hltq; have Dq := Seg.hid (O2.out.abort (g := ⟨t.producer, f, t.base⟩) (b19.out _) hownq grq (hatq.elim (fun e => .inl (by rw [e]; rfl)) (fun e => .inr ⟨gq, rfl, by omega⟩))); clear hownq grq hatq hltq)))
                all_goals
                  clear OWG b19 x0 x1 kk c6f c0 c2 c5 lg6 RK CEL
                  go_wp2_with fail
                  have hBW : w.heap.size ≤ wq.heap.size := Dq.out.bel.size
                  obtain ⟨g3, cap3, e3, _, hg3, CE0⟩ := row_at Dq.out.r1 (by omega)
                  simp only [Value.slice.injEq, Option.some.injEq, Addr.mk.injEq, true_and, and_true] at e3
                  obtain ⟨rfl, rfl⟩ := e3
                  have CE := Seg.hid CE0
                  clear CE0
                  have OE : Hid ((wq.alloc (.cells #[] 50 (0, 0))).drew.ownsRow wq.heap.size 50 3 (.slice (some ⟨wq.heap.size, 0, none⟩) 0 0) 0 []) := ⟨rfl, .inr ⟨_, 0, #[], rfl, Nat.le_refl _, heap_alloc_new _ _, Nat.le_refl _, by unfold maxLen; omega, rfl, rfl⟩⟩
                  have BE : Hid (Below wq.heap.size wq (wq.alloc (.cells #[] 50 (0, 0))).drew) := (fun b => ⟨b.os, b.tape, b.output, b.size, b.block⟩) (below1 wq (.cells #[] 50 (0, 0)))
                  have N1 : Hid (∀ wx, Below wq.heap.size wq wx → i ≠ 0 → ∃ ad, (some ⟨g2, 0, none⟩ : Option Addr) = some ad ∧ ∀ j u, (gcells (rs.1.take i))[j]? = some u → wx.cell? (ad.add j) = some u) := fun wx bx _ => ⟨_, rfl, fun j u hu => by
                    obtain ⟨h1, h2⟩ := take_cells (by omega) hu
                    rw [add_off, Nat.zero_add, bx.cell (p := ⟨g2, j, none⟩) hg3, CE.out j h1, h2]⟩
                  have N2 : Hid (∀ wx, Below wq.heap.size wq wx → ∀ j u, (gcells (rs.1.drop (i + 1)))[j]? = some u → wx.cell? ((⟨g2, (i + 1) * 3, none⟩ : Addr).add j) = some u) := fun wx bx j u hu => by
                    obtain ⟨h1, h2⟩ := drop_cells (by omega) hu
                    rw [add_off, bx.cell (p := ⟨g2, (i + 1) * 3 + j, none⟩) hg3, CE.out _ h1, h2]
                  have L1 : Hid ((gcells (rs.1.take i)).length = i * 3) := by show _ = _; rw [gcells_len, List.length_take, Nat.min_eq_left (by omega)]
                  have L2 : Hid ((gcells (rs.1.drop (i + 1))).length = (rs.1.length - (i + 1)) * 3) := by show _ = _; rw [gcells_len, List.length_drop]
                  have U1 := Seg.hid (gcells_one (rs.1.take i))
                  have U2 := Seg.hid (gcells_one (rs.1.drop (i + 1)))
                  go_region_law
                    ((first | (refine step_append_all _ (by rfl) _ _ _ (by rfl) wq.heap.size 50 i0 _ 3 24 Try.underlying41 hi hz0 hz1 hz2 rfl (by decide) (.slice (some ⟨wq.heap.size, 0, none⟩) 0 0) 0 [] (by rfl) OE.out (some ⟨g2, 0, none⟩) i co (gcells (rs.1.take i)) (by rfl) L1.out (N1.out _ BE.out) U1.out (by unfold maxLen; omega) (by omega) (by show _ ≤ (wq.alloc _).heap.size; rw [hsz]; exact Nat.le_succ _) ?_; intro v9 w9 hown9 gr9 hat9; have O9 := Seg.hid hown9; have H9 := Seg.hid hat9; have B9 : Hid (Below wq.heap.size wq w9) := bel_grow (ov := .slice (some ⟨wq.heap.size, 0, none⟩) 0 0) (Below.refl _ _) (Nat.le_refl _) BE.out gr9 (fun x hx => by cases hx; exact Nat.le_refl _); clear hown9 gr9 hat9) | (go_loud (refine step_append_all _ (by rfl) _ _ _ (by rfl) wq.heap.size 50 i0 _ 3 24 Try.underlying41 hi hz0 hz1 hz2 rfl (by decide) v9 (0 + i) ([] ++ gcells (rs.1.take i)) (by rfl) O9.out _ (rs.1.length - (i + 1)) _ (gcells (rs.1.drop (i + 1))) (by rfl) L2.out (fun hne => ⟨⟨g2, (i + 1) * 3, none⟩, by rw [if_neg (by omega)], N2.out _ B9.out⟩) U2.out (by unfold maxLen; omega) (by omega) (Nat.le_trans (Nat.le_refl _) B9.out.size) ?_); intro v10 w10 hown10 gr10 hat10; have D10 := Seg.hid (Dq.out.swap2 hi1 B9.out O9.out gr10 hown10); clear hown10 gr10 hat10)))
                  all_goals
                    clear OE BE N1 N2 L1 L2 U1 U2 O9 H9 B9 CE
                    go_wp2
                    go_roundw
                    case rel => exact ⟨k + 1, stp rs t, by omega, SX.out.symm, un_step UU.out t, by go_num, by rw [S2.out]; exact D10.out⟩
                    case measure => simp [intOf]; omega
              · have hb2 : (ky.toList == [97, 98, 111, 114, 116]) = false := beq_false_of_ne hab
                have S2 : Hid (stp rs t = (rs.1.take i ++ rs.1.drop (i + 1), rs.2)) := by show _ = _; rw [SN.out, hi5, AB.out]; simp [hab]
                clear hab
                go_wp2_with fail
                have hBW : w.heap.size ≤ wr.heap.size := O2.out.bel.size
                obtain ⟨g3, cap3, e3, _, hg3, CE0⟩ := row_at O2.out.r1 (by omega)
                simp only [Value.slice.injEq, Option.some.injEq, Addr.mk.injEq, true_and, and_true] at e3
                obtain ⟨rfl, rfl⟩ := e3
                have CE := Seg.hid CE0
                clear CE0
                have OE : Hid ((wr.alloc (.cells #[] 50 (0, 0))).drew.ownsRow wr.heap.size 50 3 (.slice (some ⟨wr.heap.size, 0, none⟩) 0 0) 0 []) := ⟨rfl, .inr ⟨_, 0, #[], rfl, Nat.le_refl _, heap_alloc_new _ _, Nat.le_refl _, by unfold maxLen; omega, rfl, rfl⟩⟩
                have BE : Hid (Below wr.heap.size wr (wr.alloc (.cells #[] 50 (0, 0))).drew) := (fun b => ⟨b.os, b.tape, b.output, b.size, b.block⟩) (below1 wr (.cells #[] 50 (0, 0)))
                have N1 : Hid (∀ wx, Below wr.heap.size wr wx → i ≠ 0 → ∃ ad, (some ⟨g2, 0, none⟩ : Option Addr) = some ad ∧ ∀ j u, (gcells (rs.1.take i))[j]? = some u → wx.cell? (ad.add j) = some u) := fun wx bx _ => ⟨_, rfl, fun j u hu => by
                  obtain ⟨h1, h2⟩ := take_cells (by omega) hu
                  rw [add_off, Nat.zero_add, bx.cell (p := ⟨g2, j, none⟩) hg3, CE.out j h1, h2]⟩
                have N2 : Hid (∀ wx, Below wr.heap.size wr wx → ∀ j u, (gcells (rs.1.drop (i + 1)))[j]? = some u → wx.cell? ((⟨g2, (i + 1) * 3, none⟩ : Addr).add j) = some u) := fun wx bx j u hu => by
                  obtain ⟨h1, h2⟩ := drop_cells (by omega) hu
                  rw [add_off, bx.cell (p := ⟨g2, (i + 1) * 3 + j, none⟩) hg3, CE.out _ h1, h2]
                have L1 : Hid ((gcells (rs.1.take i)).length = i * 3) := by show _ = _; rw [gcells_len, List.length_take, Nat.min_eq_left (by omega)]
                have L2 : Hid ((gcells (rs.1.drop (i + 1))).length = (rs.1.length - (i + 1)) * 3) := by show _ = _; rw [gcells_len, List.length_drop]
                have U1 := Seg.hid (gcells_one (rs.1.take i))
                have U2 := Seg.hid (gcells_one (rs.1.drop (i + 1)))
                go_region_law
                  ((first | (refine step_append_all _ (by rfl) _ _ _ (by rfl) wr.heap.size 50 i0 _ 3 24 Try.underlying41 hi hz0 hz1 hz2 rfl (by decide) (.slice (some ⟨wr.heap.size, 0, none⟩) 0 0) 0 [] (by rfl) OE.out (some ⟨g2, 0, none⟩) i co (gcells (rs.1.take i)) (by rfl) L1.out (N1.out _ BE.out) U1.out (by unfold maxLen; omega) (by omega) (by show _ ≤ (wr.alloc _).heap.size; rw [hsz]; exact Nat.le_succ _) ?_; intro v9 w9 hown9 gr9 hat9; have O9 := Seg.hid hown9; have H9 := Seg.hid hat9; have B9 : Hid (Below wr.heap.size wr w9) := bel_grow (ov := .slice (some ⟨wr.heap.size, 0, none⟩) 0 0) (Below.refl _ _) (Nat.le_refl _) BE.out gr9 (fun x hx => by cases hx; exact Nat.le_refl _); clear hown9 gr9 hat9) | (go_loud (refine step_append_all _ (by rfl) _ _ _ (by rfl) wr.heap.size 50 i0 _ 3 24 Try.underlying41 hi hz0 hz1 hz2 rfl (by decide) v9 (0 + i) ([] ++ gcells (rs.1.take i)) (by rfl) O9.out _ (rs.1.length - (i + 1)) _ (gcells (rs.1.drop (i + 1))) (by rfl) L2.out (fun hne => ⟨⟨g2, (i + 1) * 3, none⟩, by rw [if_neg (by omega)], N2.out _ B9.out⟩) U2.out (by unfold maxLen; omega) (by omega) (Nat.le_trans (Nat.le_refl _) B9.out.size) ?_); intro v10 w10 hown10 gr10 hat10; have D10 := Seg.hid (O2.out.swap2 hi1 B9.out O9.out gr10 hown10); clear hown10 gr10 hat10)))
                all_goals
                  clear OE BE N1 N2 L1 L2 U1 U2 O9 H9 B9 CE
                  go_wp2
                  go_roundw
                  case rel => exact ⟨k + 1, stp rs t, by omega, SX.out.symm, un_step UU.out t, by go_num, by rw [S2.out]; exact D10.out⟩
                  case measure => simp [intOf]; omega
    · have E : Hid (rs = runB ([], []) l) := by show _ = _; rw [HRS.out, List.take_of_length_le (by omega)]
      go_wp2
      (try simp only [Exit.inBlock, Exit.then])
      refine bodyPost_ret (results_tmp2 rfl _ _ _) rfl ?_
      exact ⟨ov, gv, rfl, by rw [← E.out]; exact HR.out⟩
end Go.Proofs.Ytdnfnjlnfmafkaa.SdO
