/- The program's readsFrom. -/
import Derived.Deep.AppendLies
import Derived.Test.YtdnfnjlnfmafkaaJVS17
import Derived.Test.YtdnfnjlnfmafkaaJVS18
import Derived.Test.YtdnfnjlnfmafkaaJVS19
namespace Go.Proofs.Ytdnfnjlnfmafkaa.VsR
set_option maxRecDepth 8000
open Go.RowKit
open Ls VsP VsO
open Recs (hsz below1 below2 chain Bat Rec Row RecsAt Heads recCells FewB)
open Ft (OwnH LGrow LGr ER)
open SrP (bEnd)
set_option linter.unusedVariables false
theorem row_eqf' {w : World} {lo b s n : Nat} {v : Value} {f f' : Nat → Nat → Value} (h : Row w lo b s v n f) (he : ∀ i, i < n → ∀ j, j < s → f i j = f' i j) : Row w lo b s v n f' := by
  obtain ⟨h0, A, c, h1, h2⟩ := h
  refine ⟨h0, A, c, h1, h2.imp id ?_⟩
  rintro ⟨g, o, h3, h4, h5, h6, h7⟩
  exact ⟨g, o, h3, h4, h5, fun i hi j hj => by rw [h6 i hi j hj, he i hi j hj], h7⟩
theorem recs_drop {w : World} {lo b c k g o : Nat} {rs : List Rec} (h : RecsAt w lo b (.slice (some ⟨g, o, none⟩) rs.length c) rs) (hk : k < rs.length) : ∃ H, Row w lo b 6 (.slice (some ⟨g, o + k * 6, none⟩) (rs.drop k).length (c - k)) (rs.drop k).length (recCells (rs.drop k) H) ∧ ∀ i, i < (rs.drop k).length → Heads w lo b (H i) ((rs.drop k).getD i default).heads := by
  obtain ⟨H, h1, h2⟩ := h
  refine ⟨fun i => H (k + i), ?_, fun i hi => ?_⟩
  · rw [List.length_drop]
    exact row_eqf' (Ft.row_drop h1 hk) fun i hi j hj => by simp only [recCells, Ft.getD_drop]
  · rw [List.length_drop] at hi
    rw [Ft.getD_drop]
    exact h2 (k + i) (by omega)
/-- How far the list is made. -/
structure RL (w1 wr : World) (n0 : Nat) (v : Value) (ps : List RV) : Prop where
  own : wr.ownsRow n0 55 7 v ps.length (cellsR ps)
  keep : ∀ x, x < w1.heap.size → x ≠ n0 → wr.heap[x]? = w1.heap[x]?
  out : ∀ x, v.ownBlock = some x → x = n0 ∨ w1.heap.size ≤ x
  os : wr.os = w1.os ∧ wr.tape = w1.tape ∧ wr.output = w1.output
  size : w1.heap.size ≤ wr.heap.size
  n0 : n0 < w1.heap.size
theorem RL.later {w1 wr w' : World} {n0 : Nat} {v : Value} {ps : List RV} (h : RL w1 wr n0 v ps) (b : Below wr.heap.size wr w') : RL w1 w' n0 v ps :=
  ⟨ownsKeep h.own (fun g hg => b.block g (World.ownsRow.lt h.own g hg).2), fun x h1 h2 => (b.block x (by have := h.size; omega)).trans (h.keep x h1 h2), h.out, ⟨b.os.trans h.os.1, b.tape.trans h.os.2.1, b.output.trans h.os.2.2⟩, Nat.le_trans h.size b.size, h.n0⟩
theorem RL.push {w1 wr w9 : World} {n0 : Nat} {v v' : Value} {ps : List RV} {p : RV} {o : Obj} (h : RL w1 wr n0 v ps) (hown : w9.ownsRow n0 55 7 v' (ps.length + 1) (cellsR ps ++ (redArr p.1 p.2).toList)) (gr : (wr.alloc o).grownBy w9 v.ownBlock) (hat : v'.ownBlock = v.ownBlock ∨ v'.ownBlock = some (wr.heap.size + 1)) : RL w1 w9 n0 v' (ps ++ [p]) := by
  have hz := h.size
  have gs := gr.size
  rw [hsz] at gs
  have hn := h.n0
  refine ⟨by rw [cellsR_app, cellsR_one, List.length_append, List.length_singleton]; exact hown, fun x h1 h2 => ?_, fun x hx => ?_, ⟨gr.os.trans h.os.1, gr.tape.trans h.os.2.1, gr.output.trans h.os.2.2⟩, by omega, hn⟩
  · rw [gr.block x (by rw [hsz]; omega) (fun q => by
      rcases h.out x q.symm with e | e
      · exact h2 e
      · omega), (below1 _ _).block _ (by omega)]
    exact h.keep x h1 h2
  · rcases hat with e | e
    · rw [e] at hx; exact h.out x hx
    · rw [e] at hx
      have : wr.heap.size + 1 = x := Option.some.inj hx
      right; omega
theorem RL.below {w w1 wr : World} {n0 : Nat} {v : Value} {ps : List RV} (h : RL w1 wr n0 v ps) (b : Below w.heap.size w w1) (hn : w.heap.size ≤ n0) : Below w.heap.size w wr :=
  ⟨h.os.1.trans b.os, h.os.2.1.trans b.tape, h.os.2.2.trans b.output, Nat.le_trans b.size h.size, fun x hx => (h.keep x (by have := b.size; omega) (by omega)).trans (b.block x hx)⟩
def psOf (off : Int) (rs : List Rec) (F : Nat → Value) (j : Nat) : List RV := (List.range j).map (fun (i : Nat) => (red (off + (i : Int)) (rs.getD i default), F (i * 6 + 5)))
theorem psOf_len (off : Int) (rs : List Rec) (F : Nat → Value) (j : Nat) : (psOf off rs F j).length = j := by simp [psOf]
theorem psOf_get {off : Int} {rs : List Rec} {F : Nat → Value} {j : Nat} (i : Nat) (h : i < j) : (psOf off rs F j).getD i default = (red (off + i) (rs.getD i default), F (i * 6 + 5)) := getD_range _ _ _ h
theorem psOf_succ (off : Int) (rs : List Rec) (F : Nat → Value) (j : Nat) : psOf off rs F (j + 1) = psOf off rs F j ++ [(red (off + j) (rs.getD j default), F (j * 6 + 5))] := by simp [psOf, List.range_succ]
theorem psOf_fst (off : Int) (rs : List Rec) (F : Nat → Value) : (psOf off rs F rs.length).map Prod.fst = rds off rs := by
  refine List.ext_getElem (by simp [psOf, rds_len]) fun i h1 h2 => ?_
  rw [rds_len] at h2
  have := rds_get off rs i h2
  rw [List.getD_eq_getElem?_getD, List.getElem?_eq_getElem (by rw [rds_len]; exact h2), Option.getD_some] at this
  rw [this]
  simp [psOf]
theorem infoRD : (Try.prog.info? 55).map (fun i => (i.zero, i.size, i.bytes)) = some (some (.agg #[.int .i64 0, .int .i64 0, .bool false, .string ⟨#[]⟩, .bool false, .string ⟨#[]⟩, .slice none 0 0]), 7, 88) := by kernel_rfl
set_option maxHeartbeats 1600000 in
theorem reads_on (b : Bat) (A : Option Addr) (c : Nat) (k : Nat) (hk : k < b.recs.length) (w : World) (lo hi : Nat) (hb : hi ≤ w.heap.size) (hr : RecsAt w lo hi (.slice A b.recs.length c) b.recs) (hf : FewB b) (hok : BOk.batOk b = true) :
    Calls Try.prog 25 #[.agg #[.int .i64 b.base, .int .i64 b.epoch, .int .i64 b.producer, .int .i64 b.turn, .int .i64 b.seq, .int .i64 b.flags, .slice A b.recs.length c], .int .i64 (b.base + (k : Int))] w fun e w' => ∃ v qs S base, e = .returned v ∧ qs.map Prod.fst = rds (b.base + (k : Nat)) (b.recs.drop k) ∧ w'.ownsRow base 55 7 v qs.length (cellsR qs) ∧ PH w' S qs ∧ (∀ y, S y → w.heap.size ≤ y ∧ y < w'.heap.size) ∧ Below w.heap.size w w' := by
  obtain ⟨i0, hi0, hz0, hz1, hz2⟩ := info_parts infoRD
  have ol := LgP.okLen hok
  have w1' : IntKind.i64.wrap (b.base + (k : Int) - b.base) = (k : Int) := by rw [IntKind.wrap_i64]; omega
  have w2' : b.base + (k : Int) - b.base = (k : Int) := by omega
  have k0 : (0 : Int) ≤ (k : Int) := by omega
  have k1 : ¬ (k : Int) < 0 := by omega
  have k2 : (k : Int) ≤ (b.recs.length : Int) := by omega
  have k3 : max (k : Int) 0 = (k : Int) := by omega
  have HF := Seg.hid hf
  obtain ⟨_, ⟨_, A', c', hsl, hrow⟩, _⟩ := id hr
  simp only [Value.slice.injEq] at hsl
  obtain ⟨rfl, _, rfl⟩ := hsl
  obtain ⟨gb, ob, rfl, hgb, hcb, _, _⟩ := hrow.resolve_left (by omega)
  obtain ⟨H, hr1, hh1⟩ := recs_drop (k := k) hr (by omega)
  have HR1 := Seg.hid hr1
  have HH1 := Seg.hid hh1
  have FL : Hid (∀ i, i < (b.recs.drop k).length → Recs.FewR ((b.recs.drop k).getD i default)) := fun i hi' => by
    rw [Ft.getD_drop]
    exact HF.out.2 _ (by rw [List.length_drop] at hi'; omega)
  have hdl : (b.recs.drop k).length = b.recs.length - k := by rw [List.length_drop]
  have hd0 : 0 < (b.recs.drop k).length := by omega
  have hd1 : (b.recs.drop k).length ≤ 40 := by omega
  clear hr hf hrow hr1 hh1
  go_enter Try.func25, Try.ntmps25
  go_wp2_with fail
  rw [← hdl]
  refine (Ft.copyRecords_core (b.recs.drop k) _ _ H ((w.alloc _).alloc _) lo hi (by rw [hsz, hsz]; omega) (by omega) FL.out (HR1.out.below ((below2 w _ _).mono hb)) (fun i hi' => (HH1.out i hi').below ((below2 w _ _).mono hb))).mono ?_
  rintro e w1 ⟨rv, rfl, ⟨F, P, hG⟩, b1⟩
  have B1 := Seg.hid (chain (below2 w _ _) b1)
  have T1 : Hid (w1.heap[w.heap.size]? = some (.cells #[.int .i64 b.base, .int .i64 b.epoch, .int .i64 b.producer, .int .i64 b.turn, .int .i64 b.seq, .int .i64 b.flags, .slice (some ⟨gb, ob, none⟩) b.recs.length c] 48 (0, 0))) := (b1.block w.heap.size (by rw [hsz, hsz]; omega)).trans (((below1 _ _).block _ (by rw [hsz]; omega)).trans (heap_alloc_new _ _))
  have E1 : Hid (w1.heap[w.heap.size + 1]? = some (.cells #[] 55 (0, 0))) := by
    have := heap_alloc_new (w.alloc (.cells #[.int .i64 b.base, .int .i64 b.epoch, .int .i64 b.producer, .int .i64 b.turn, .int .i64 b.seq, .int .i64 b.flags, .slice (some ⟨gb, ob, none⟩) b.recs.length c] 48 (0, 0))) (.cells #[] 55 (0, 0))
    rw [hsz] at this
    exact (b1.block (w.heap.size + 1) (by rw [hsz, hsz]; omega)).trans this
  have s1 := b1.size
  rw [hsz, hsz] at s1 hG
  obtain ⟨g1, c1, rfl, hg1⟩ := (hG.own.form hd0)
  have CE : Hid (∀ i, i < (b.recs.drop k).length → ∀ q, q < 6 → w1.cell? ⟨g1, i * 6 + q, none⟩ = some (F (i * 6 + q))) := fun i hi' q hq => by
    have hq' : i * 6 + q < (b.recs.drop k).length * 6 := by omega
    rw [World.ownsRow.cellAt hG.own _ hq']
    simp only [List.getElem?_map, List.getElem?_range hq', Option.map_some]
  have EL : Hid (∀ i, i < (b.recs.drop k).length → ER w1 (P i) (fun q => F (i * 6 + q)) ((b.recs.drop k).getD i default)) := hG.el
  have PHE : Hid (PH w1 (fun y => ∃ i, i < (b.recs.drop k).length ∧ P i y) (psOf (b.base + (k : Nat)) (b.recs.drop k) F (b.recs.drop k).length)) := by
    refine PH.of (P := P) (fun i hi' => ?_) (fun i hi' y hy => ⟨i, by rwa [psOf_len] at hi', hy⟩) (fun i j hi' hj' => hG.disj i j (by rwa [psOf_len] at hi') (by rwa [psOf_len] at hj'))
    rw [psOf_len] at hi'
    rw [psOf_get i hi']
    exact (hG.el i hi').2
  have AP : Hid (∀ i, i < (b.recs.drop k).length → ∀ y, P i y → w.heap.size + 1 + 1 ≤ y ∧ y < w1.heap.size) := fun i hi' y hy => ⟨(hG.apart i hi' y hy).1, (hG.apart i hi' y hy).2.1⟩
  clear b1 hG HR1 HH1 FL HF hdl
  have R0 : Hid (RL w1 w1 (w.heap.size + 1) (.slice (some ⟨w.heap.size + 1, 0, none⟩) 0 0) []) := by
    refine ⟨⟨rfl, .inr ⟨w.heap.size + 1, 0, #[], rfl, Nat.le_refl _, E1.out, Nat.le_refl _, Nat.zero_le _, rfl, by simp [cellsR]⟩⟩, fun _ _ _ => rfl, fun q hq => ?_, ⟨rfl, rfl, rfl⟩, Nat.le_refl _, by omega⟩
    simp only [Value.ownBlock, Option.some.injEq] at hq
    exact .inl hq.symm
  obtain ⟨rs, hrs⟩ : ∃ rs, b.recs.drop k = rs := ⟨_, rfl⟩
  rw [hrs] at CE EL PHE AP hd0 hd1 ⊢
  have HRS := Seg.hid hrs
  clear hrs
  have z0 : (0 : Int) < (rs.length : Int) := by omega
  go_wp2_with fail
  go_loopw [6, 21] (fun v i wr => ∃ (j : Nat) (ps : List RV) (A1 : Option Addr) (c2 : Nat), j ≤ rs.length ∧ i = .int .i64 j ∧ v = .slice A1 ps.length c2 ∧ ps.length = j ∧ Hid (ps = psOf (b.base + (k : Nat)) rs F j ∧ RL w1 wr (w.heap.size + 1) (.slice A1 ps.length c2) ps)) (fun _ i _ => rs.length - (intOf i).toNat)
  case atStart => exact ⟨0, [], _, _, Nat.zero_le _, rfl, rfl, rfl, rfl, R0.out⟩
  case round =>
    clear R0
    obtain ⟨j, ps, A1, c2, hj, rfl, rfl, hpj, HW⟩ := hrel
    by_cases hlt : j < rs.length
    · have j0 : (0 : Int) ≤ (j : Int) := by omega
      have j1 : (j : Int) < (rs.length : Int) := by omega
      have kg := HW.out.2.keep g1 hg1.2 (by omega)
      have kb := (HW.out.2.keep w.heap.size (by omega) (by omega)).trans T1.out
      have zr := HW.out.2.size
      obtain ⟨⟨e0, e1, e2, e3, e4⟩, e5⟩ := EL.out j hlt
      have d := fun q hq => (World.cell?_of_block (w := w1) (a := ⟨g1, j * 6 + q, none⟩) kg).trans (CE.out j hlt q hq)
      have d0 : wr.cell? ⟨g1, j * 6, none⟩ = some (.int .i64 (rs.getD j default).time) := by rw [← e0]; exact d 0 (by omega)
      have d1 : wr.cell? ⟨g1, j * 6 + 1, none⟩ = some (.bool (rs.getD j default).keyed) := by rw [← e1]; exact d 1 (by omega)
      have d2 : wr.cell? ⟨g1, j * 6 + 2, none⟩ = some (.string (rs.getD j default).key) := by rw [← e2]; exact d 2 (by omega)
      have d3 : wr.cell? ⟨g1, j * 6 + 3, none⟩ = some (.bool (rs.getD j default).gone) := by rw [← e3]; exact d 3 (by omega)
      have d4 : wr.cell? ⟨g1, j * 6 + 4, none⟩ = some (.string (rs.getD j default).val) := by rw [← e4]; exact d 4 (by omega)
      have d5 : wr.cell? ⟨g1, j * 6 + 5, none⟩ = some (F (j * 6 + 5)) := d 5 (by omega)
      obtain ⟨Ah, ch, hh⟩ := Ft.LOwn.form e5
      have hh' : F (j * 6 + 5) = .slice Ah (rs.getD j default).heads.length ch := hh
      have PS := Seg.hid (psOf_succ (b.base + (k : Nat)) rs F j)
      have p0 : wr.cell? ⟨w.heap.size, 0, none⟩ = some (.int .i64 b.base) := cell_of_row wr w.heap.size 0 _ _ (0, 0) kb
      rw [hh'] at d5 PS
      have RLr := Seg.hid HW.out.2
      have PE := Seg.hid HW.out.1
      clear d hh hh' e0 e1 e2 e3 e4 e5 HW kg kb
      generalize rs.getD j default = rj at *
      have hwr : w.heap.size < wr.heap.size := by omega
      have hgr : g1 < wr.heap.size := by omega
      have wa : IntKind.i64.wrap (b.base + (k : Int)) = b.base + (k : Int) := by rw [IntKind.wrap_i64]; omega
      have wb : IntKind.i64.wrap (b.base + (k : Int) + (j : Int)) = b.base + (k : Int) + (j : Int) := by rw [IntKind.wrap_i64]; omega
      have w1s : Hid ((wr.alloc (.cells #[.int .i64 rj.time, .bool rj.keyed, .string rj.key, .bool rj.gone, .string rj.val, .slice Ah rj.heads.length ch] 53 (0, 0))).heap.size = wr.heap.size + 1) := hsz _ _
      have RL1 := Seg.hid (RLr.out.later (below1 wr (.cells #[.int .i64 rj.time, .bool rj.keyed, .string rj.key, .bool rj.gone, .string rj.val, .slice Ah rj.heads.length ch] 53 (0, 0))))
      go_wp2_with (at_builtin; (refine wpList_append_lies _ rfl _ _ 26 rfl (w.heap.size + 1) 55 i0 _ 7 88 Try.underlying26 hi0 hz0 hz1 hz2 rfl (by decide) (.slice A1 ps.length c2) ps.length (cellsR ps) rfl (World.ownsRow.alloc RL1.out.own _) ⟨wr.heap.size + 1, 0, none⟩ 1 1 (redArr (red (b.base + (k : Int) + (j : Int)) rj) (.slice Ah rj.heads.length ch)).toList rfl rfl (World.news_of_block (cs := redArr (red (b.base + (k : Int) + (j : Int)) rj) (.slice Ah rj.heads.length ch)) (by rw [← w1s.out]; exact heap_alloc_new _ _)) (by simp [redArr, red, Value.oneCell']) (by decide) (by unfold maxLen; omega) (by omega) (by rw [hsz, hsz]; omega) (wr.heap.size + 1 + 1) (by rw [hsz, hsz]) ?_; intro g9 cap9 w9 hown9 gr9 hat9 hlt9; have D9 := Seg.hid (RL.push (p := (red (b.base + (k : Int) + (j : Int)) rj, .slice Ah rj.heads.length ch)) RL1.out hown9 gr9 (hat9.imp (fun e => by rw [e]; rfl) (fun e => by rw [e, w1s.out]; rfl))); clear hown9 gr9 hat9 hlt9))
      go_roundw
      case rel => exact ⟨j + 1, ps ++ [(red (b.base + (k : Int) + (j : Int)) rj, .slice Ah rj.heads.length ch)], some ⟨g9, 0, none⟩, cap9, by omega, by go_num, by simp [hpj], by simp [hpj], by rw [PS.out, PE.out], by simpa using D9.out⟩
      case measure => simp [intOf]; omega
    · have hjl : j = rs.length := by omega
      have QF : Hid (ps.map Prod.fst = rds (b.base + (k : Nat)) rs) := by show _ = _; rw [HW.out.1, hjl, psOf_fst]
      have RE := Seg.hid HW.out.2
      have PE : Hid (PH wr (fun y => ∃ i, i < rs.length ∧ P i y) ps) := by
        show PH _ _ _
        rw [HW.out.1, hjl]
        exact PHE.out.keep RE.out.size (fun y ⟨i, hi', hy⟩ => RE.out.keep y (AP.out i hi' y hy).2 (by have := (AP.out i hi' y hy).1; omega))
      have SE : Hid (∀ y, (∃ i, i < rs.length ∧ P i y) → w.heap.size ≤ y ∧ y < wr.heap.size) := fun y ⟨i, hi', hy⟩ => ⟨by have := (AP.out i hi' y hy).1; omega, by have := (AP.out i hi' y hy).2; have := RE.out.size; omega⟩
      have BE := Seg.hid (RE.out.below B1.out (by omega))
      clear HW
      subst hjl
      go_wp2_with fail
      go_ret
      exact ⟨_, ps, _, _, rfl, by rw [HRS.out]; exact QF.out, RE.out.own, PE.out, SE.out, BE.out⟩
set_option maxHeartbeats 1600000 in
theorem reads_ahead (b : Bat) (A : Option Addr) (c : Nat) (x : Int) (hx : x < b.base) (hx0 : 0 ≤ x) (w : World) (lo hi : Nat) (hb : hi ≤ w.heap.size) (hr : RecsAt w lo hi (.slice A b.recs.length c) b.recs) (hf : FewB b) (hok : BOk.batOk b = true) :
    Calls Try.prog 25 #[.agg #[.int .i64 b.base, .int .i64 b.epoch, .int .i64 b.producer, .int .i64 b.turn, .int .i64 b.seq, .int .i64 b.flags, .slice A b.recs.length c], .int .i64 x] w fun e w' => ∃ v qs S base, e = .returned v ∧ qs.map Prod.fst = rds b.base b.recs ∧ w'.ownsRow base 55 7 v qs.length (cellsR qs) ∧ PH w' S qs ∧ (∀ y, S y → w.heap.size ≤ y ∧ y < w'.heap.size) ∧ Below w.heap.size w w' := by
  obtain ⟨i0, hi0, hz0, hz1, hz2⟩ := info_parts infoRD
  have ol := LgP.okLen hok
  have w1' : IntKind.i64.wrap (x - b.base) = x - b.base := by rw [IntKind.wrap_i64]; omega
  have k1 : x - b.base < 0 := by omega
  have k3 : max (x - b.base) 0 = 0 := by omega
  have k4 : ¬ (0 : Int) < x - b.base := by omega
  have k5 : x - b.base ≤ 0 := by omega
  have HF := Seg.hid hf
  obtain ⟨_, ⟨_, A', c', hsl, hrow⟩, _⟩ := id hr
  simp only [Value.slice.injEq] at hsl
  obtain ⟨rfl, _, rfl⟩ := hsl
  obtain ⟨gb, ob, rfl, hgb, hcb, _, _⟩ := hrow.resolve_left (by omega)
  obtain ⟨H, hr1, hh1⟩ := id hr
  have HR1 := Seg.hid hr1
  have HH1 := Seg.hid hh1
  have FL : Hid (∀ i, i < b.recs.length → Recs.FewR (b.recs.getD i default)) := fun i hi' => by
    exact HF.out.2 _ hi'
  have hd0 : 0 < b.recs.length := by omega
  have hd1 : b.recs.length ≤ 40 := by omega
  clear hr hf hrow hr1 hh1
  go_enter Try.func25, Try.ntmps25
  go_wp2_with fail
  refine (Ft.copyRecords_core b.recs _ _ H ((w.alloc _).alloc _) lo hi (by rw [hsz, hsz]; omega) (by omega) FL.out (HR1.out.below ((below2 w _ _).mono hb)) (fun i hi' => (HH1.out i hi').below ((below2 w _ _).mono hb))).mono ?_
  rintro e w1 ⟨rv, rfl, ⟨F, P, hG⟩, b1⟩
  have B1 := Seg.hid (chain (below2 w _ _) b1)
  have T1 : Hid (w1.heap[w.heap.size]? = some (.cells #[.int .i64 b.base, .int .i64 b.epoch, .int .i64 b.producer, .int .i64 b.turn, .int .i64 b.seq, .int .i64 b.flags, .slice (some ⟨gb, ob, none⟩) b.recs.length c] 48 (0, 0))) := (b1.block w.heap.size (by rw [hsz, hsz]; omega)).trans (((below1 _ _).block _ (by rw [hsz]; omega)).trans (heap_alloc_new _ _))
  have E1 : Hid (w1.heap[w.heap.size + 1]? = some (.cells #[] 55 (0, 0))) := by
    have := heap_alloc_new (w.alloc (.cells #[.int .i64 b.base, .int .i64 b.epoch, .int .i64 b.producer, .int .i64 b.turn, .int .i64 b.seq, .int .i64 b.flags, .slice (some ⟨gb, ob, none⟩) b.recs.length c] 48 (0, 0))) (.cells #[] 55 (0, 0))
    rw [hsz] at this
    exact (b1.block (w.heap.size + 1) (by rw [hsz, hsz]; omega)).trans this
  have s1 := b1.size
  rw [hsz, hsz] at s1 hG
  obtain ⟨g1, c1, rfl, hg1⟩ := (hG.own.form hd0)
  have CE : Hid (∀ i, i < b.recs.length → ∀ q, q < 6 → w1.cell? ⟨g1, i * 6 + q, none⟩ = some (F (i * 6 + q))) := fun i hi' q hq => by
    have hq' : i * 6 + q < b.recs.length * 6 := by omega
    rw [World.ownsRow.cellAt hG.own _ hq']
    simp only [List.getElem?_map, List.getElem?_range hq', Option.map_some]
  have EL : Hid (∀ i, i < b.recs.length → ER w1 (P i) (fun q => F (i * 6 + q)) (b.recs.getD i default)) := hG.el
  have PHE : Hid (PH w1 (fun y => ∃ i, i < b.recs.length ∧ P i y) (psOf b.base b.recs F b.recs.length)) := by
    refine PH.of (P := P) (fun i hi' => ?_) (fun i hi' y hy => ⟨i, by rwa [psOf_len] at hi', hy⟩) (fun i j hi' hj' => hG.disj i j (by rwa [psOf_len] at hi') (by rwa [psOf_len] at hj'))
    rw [psOf_len] at hi'
    rw [psOf_get i hi']
    exact (hG.el i hi').2
  have AP : Hid (∀ i, i < b.recs.length → ∀ y, P i y → w.heap.size + 1 + 1 ≤ y ∧ y < w1.heap.size) := fun i hi' y hy => ⟨(hG.apart i hi' y hy).1, (hG.apart i hi' y hy).2.1⟩
  clear b1 hG HR1 HH1 FL HF
  have R0 : Hid (RL w1 w1 (w.heap.size + 1) (.slice (some ⟨w.heap.size + 1, 0, none⟩) 0 0) []) := by
    refine ⟨⟨rfl, .inr ⟨w.heap.size + 1, 0, #[], rfl, Nat.le_refl _, E1.out, Nat.le_refl _, Nat.zero_le _, rfl, by simp [cellsR]⟩⟩, fun _ _ _ => rfl, fun q hq => ?_, ⟨rfl, rfl, rfl⟩, Nat.le_refl _, by omega⟩
    simp only [Value.ownBlock, Option.some.injEq] at hq
    exact .inl hq.symm
  generalize hrs : b.recs = rs at *
  have HRS := Seg.hid hrs
  clear hrs
  have z0 : (0 : Int) < (rs.length : Int) := by omega
  go_wp2_with fail
  go_loopw [6, 21] (fun v i wr => ∃ (j : Nat) (ps : List RV) (A1 : Option Addr) (c2 : Nat), j ≤ rs.length ∧ i = .int .i64 j ∧ v = .slice A1 ps.length c2 ∧ ps.length = j ∧ Hid (ps = psOf b.base rs F j ∧ RL w1 wr (w.heap.size + 1) (.slice A1 ps.length c2) ps)) (fun _ i _ => rs.length - (intOf i).toNat)
  case atStart => exact ⟨0, [], _, _, Nat.zero_le _, rfl, rfl, rfl, rfl, R0.out⟩
  case round =>
    clear R0
    obtain ⟨j, ps, A1, c2, hj, rfl, rfl, hpj, HW⟩ := hrel
    by_cases hlt : j < rs.length
    · have j0 : (0 : Int) ≤ (j : Int) := by omega
      have j1 : (j : Int) < (rs.length : Int) := by omega
      have kg := HW.out.2.keep g1 hg1.2 (by omega)
      have kb := (HW.out.2.keep w.heap.size (by omega) (by omega)).trans T1.out
      have zr := HW.out.2.size
      obtain ⟨⟨e0, e1, e2, e3, e4⟩, e5⟩ := EL.out j hlt
      have d := fun q hq => (World.cell?_of_block (w := w1) (a := ⟨g1, j * 6 + q, none⟩) kg).trans (CE.out j hlt q hq)
      have d0 : wr.cell? ⟨g1, j * 6, none⟩ = some (.int .i64 (rs.getD j default).time) := by rw [← e0]; exact d 0 (by omega)
      have d1 : wr.cell? ⟨g1, j * 6 + 1, none⟩ = some (.bool (rs.getD j default).keyed) := by rw [← e1]; exact d 1 (by omega)
      have d2 : wr.cell? ⟨g1, j * 6 + 2, none⟩ = some (.string (rs.getD j default).key) := by rw [← e2]; exact d 2 (by omega)
      have d3 : wr.cell? ⟨g1, j * 6 + 3, none⟩ = some (.bool (rs.getD j default).gone) := by rw [← e3]; exact d 3 (by omega)
      have d4 : wr.cell? ⟨g1, j * 6 + 4, none⟩ = some (.string (rs.getD j default).val) := by rw [← e4]; exact d 4 (by omega)
      have d5 : wr.cell? ⟨g1, j * 6 + 5, none⟩ = some (F (j * 6 + 5)) := d 5 (by omega)
      obtain ⟨Ah, ch, hh⟩ := Ft.LOwn.form e5
      have hh' : F (j * 6 + 5) = .slice Ah (rs.getD j default).heads.length ch := hh
      have PS := Seg.hid (psOf_succ b.base rs F j)
      have p0 : wr.cell? ⟨w.heap.size, 0, none⟩ = some (.int .i64 b.base) := cell_of_row wr w.heap.size 0 _ _ (0, 0) kb
      rw [hh'] at d5 PS
      have RLr := Seg.hid HW.out.2
      have PE := Seg.hid HW.out.1
      clear d hh hh' e0 e1 e2 e3 e4 e5 HW kg kb
      generalize rs.getD j default = rj at *
      have hwr : w.heap.size < wr.heap.size := by omega
      have hgr : g1 < wr.heap.size := by omega
      have wa : IntKind.i64.wrap b.base = b.base := by rw [IntKind.wrap_i64]; omega
      have wb : IntKind.i64.wrap (b.base + (j : Int)) = b.base + (j : Int) := by rw [IntKind.wrap_i64]; omega
      have w1s : Hid ((wr.alloc (.cells #[.int .i64 rj.time, .bool rj.keyed, .string rj.key, .bool rj.gone, .string rj.val, .slice Ah rj.heads.length ch] 53 (0, 0))).heap.size = wr.heap.size + 1) := hsz _ _
      have RL1 := Seg.hid (RLr.out.later (below1 wr (.cells #[.int .i64 rj.time, .bool rj.keyed, .string rj.key, .bool rj.gone, .string rj.val, .slice Ah rj.heads.length ch] 53 (0, 0))))
      go_wp2_with (at_builtin; (refine wpList_append_lies _ rfl _ _ 26 rfl (w.heap.size + 1) 55 i0 _ 7 88 Try.underlying26 hi0 hz0 hz1 hz2 rfl (by decide) (.slice A1 ps.length c2) ps.length (cellsR ps) rfl (World.ownsRow.alloc RL1.out.own _) ⟨wr.heap.size + 1, 0, none⟩ 1 1 (redArr (red (b.base + (j : Int)) rj) (.slice Ah rj.heads.length ch)).toList rfl rfl (World.news_of_block (cs := redArr (red (b.base + (j : Int)) rj) (.slice Ah rj.heads.length ch)) (by rw [← w1s.out]; exact heap_alloc_new _ _)) (by simp [redArr, red, Value.oneCell']) (by decide) (by unfold maxLen; omega) (by omega) (by rw [hsz, hsz]; omega) (wr.heap.size + 1 + 1) (by rw [hsz, hsz]) ?_; intro g9 cap9 w9 hown9 gr9 hat9 hlt9; have D9 := Seg.hid (RL.push (p := (red (b.base + (j : Int)) rj, .slice Ah rj.heads.length ch)) RL1.out hown9 gr9 (hat9.imp (fun e => by rw [e]; rfl) (fun e => by rw [e, w1s.out]; rfl))); clear hown9 gr9 hat9 hlt9))
      go_roundw
      case rel => exact ⟨j + 1, ps ++ [(red (b.base + (j : Int)) rj, .slice Ah rj.heads.length ch)], some ⟨g9, 0, none⟩, cap9, by omega, by go_num, by simp [hpj], by simp [hpj], by rw [PS.out, PE.out], by simpa using D9.out⟩
      case measure => simp [intOf]; omega
    · have hjl : j = rs.length := by omega
      have QF : Hid (ps.map Prod.fst = rds b.base rs) := by show _ = _; rw [HW.out.1, hjl, psOf_fst]
      have RE := Seg.hid HW.out.2
      have PE : Hid (PH wr (fun y => ∃ i, i < rs.length ∧ P i y) ps) := by
        show PH _ _ _
        rw [HW.out.1, hjl]
        exact PHE.out.keep RE.out.size (fun y ⟨i, hi', hy⟩ => RE.out.keep y (AP.out i hi' y hy).2 (by have := (AP.out i hi' y hy).1; omega))
      have SE : Hid (∀ y, (∃ i, i < rs.length ∧ P i y) → w.heap.size ≤ y ∧ y < wr.heap.size) := fun y ⟨i, hi', hy⟩ => ⟨by have := (AP.out i hi' y hy).1; omega, by have := (AP.out i hi' y hy).2; have := RE.out.size; omega⟩
      have BE := Seg.hid (RE.out.below B1.out (by omega))
      clear HW
      subst hjl
      go_wp2_with fail
      go_ret
      exact ⟨_, ps, _, _, rfl, by rw [HRS.out]; exact QF.out, RE.out.own, PE.out, SE.out, BE.out⟩
theorem reads_any (b : Bat) (A : Option Addr) (c : Nat) (x : Int) (w : World) (lo hi : Nat) (hb : hi ≤ w.heap.size) (hr : RecsAt w lo hi (.slice A b.recs.length c) b.recs) (hf : FewB b) (hok : BOk.batOk b = true) (hx : x < bEnd b) (hx0 : 0 ≤ x) :
    Calls Try.prog 25 #[.agg #[.int .i64 b.base, .int .i64 b.epoch, .int .i64 b.producer, .int .i64 b.turn, .int .i64 b.seq, .int .i64 b.flags, .slice A b.recs.length c], .int .i64 x] w fun e w' => ∃ v qs S base, e = .returned v ∧ qs.map Prod.fst = reads x b ∧ w'.ownsRow base 55 7 v qs.length (cellsR qs) ∧ PH w' S qs ∧ (∀ y, S y → w.heap.size ≤ y ∧ y < w'.heap.size) ∧ Below w.heap.size w w' := by
  unfold bEnd at hx
  by_cases h : x < b.base
  · have := reads_ahead b A c x h hx0 w lo hi hb hr hf hok
    have e : fst x b = 0 := by unfold fst; omega
    unfold reads
    rw [e]
    simpa using this
  · obtain ⟨k, hk⟩ : ∃ k : Nat, x = b.base + (k : Int) := ⟨(x - b.base).toNat, by omega⟩
    subst hk
    have := reads_on b A c k (by omega) w lo hi hb hr hf hok
    have e : fst (b.base + (k : Int)) b = k := by unfold fst; omega
    unfold reads
    rw [e]
    exact this
end Go.Proofs.Ytdnfnjlnfmafkaa.VsR
