/- What the law's helpers over a list of Records answer; writeBody of the program. -/
import Derived.Test.YtdnbcfochlfopaaJH06
import Derived.Test.YtdnbcfochlfopaaJH11
namespace Go.Proofs.Ytdnbcfochlfopaa.RecsW
set_option maxRecDepth 8000
open Go.RowKit
open Recs
set_option linter.unusedVariables false

/-- The six cells of element i. -/
theorem six {w : World} {g o n : Nat} {rs : List Rec} {H : Nat → Value} (h : ∀ i, i < n → ∀ j, j < 6 → w.cell? ⟨g, o + i * 6 + j, none⟩ = some (recCells rs H i j)) (i : Nat) (hi : i < n) :
    w.cell? ⟨g, o + i * 6, none⟩ = some (.int .i64 (rs.getD i default).time) ∧ w.cell? ⟨g, o + i * 6 + 1, none⟩ = some (.bool (rs.getD i default).keyed) ∧ w.cell? ⟨g, o + i * 6 + 2, none⟩ = some (.string (rs.getD i default).key) ∧
    w.cell? ⟨g, o + i * 6 + 3, none⟩ = some (.bool (rs.getD i default).gone) ∧ w.cell? ⟨g, o + i * 6 + 4, none⟩ = some (.string (rs.getD i default).val) ∧ w.cell? ⟨g, o + i * 6 + 5, none⟩ = some (H i) :=
  ⟨h i hi 0 (by omega), h i hi 1 (by omega), h i hi 2 (by omega), h i hi 3 (by omega), h i hi 4 (by omega), h i hi 5 (by omega)⟩
/-- .. in a later world. -/
theorem six' {w w' : World} {g o n : Nat} {rs : List Rec} {H : Nat → Value} (h : ∀ i, i < n → ∀ j, j < 6 → w.cell? ⟨g, o + i * 6 + j, none⟩ = some (recCells rs H i j)) (hb : Below w.heap.size w w') (hg : g < w.heap.size) :
    ∀ i, i < n → ∀ j, j < 6 → w'.cell? ⟨g, o + i * 6 + j, none⟩ = some (recCells rs H i j) := fun i hi j hj => by rw [hb.cell (p := ⟨g, o + i * 6 + j, none⟩) hg]; exact h i hi j hj

theorem szRecordS_none (A : Option Addr) (c : Nat) (l : Int) (w : World) (h3 : -1 ≤ l) (h4 : l ≤ 1048576) :
    Calls Try.prog 54 #[.slice A 0 c, .int .i64 l] w fun e w' => ∃ r, e = .returned (.int .i64 r) ∧ -1 ≤ r ∧ r ≤ l ∧ Below w.heap.size w w' := by
  go_enter Try.func54, Try.ntmps54
  by_cases hlt : l < 0
  · go_wp2
    go_ret
    exact ⟨_, rfl, by omega, by omega, Below.refl _ _⟩
  go_wp2
  go_loop [1, 5] (fun x i => i = .int .i64 0 ∧ ∃ r, x = .int .i64 r ∧ 0 ≤ r ∧ r ≤ l) (fun _ _ => 0)
  case atStart => exact ⟨rfl, _, rfl, by omega, by omega⟩
  case round =>
    obtain ⟨rfl, r, rfl, hr0, hr1⟩ := hrel
    go_wp2
    go_ret
    exact ⟨r, rfl, by omega, by omega, Below.refl _ _⟩

set_option maxHeartbeats 400000 in
theorem szRecordS_core (g o n c b : Nat) (rs : List Rec) (H : Nat → Value) (l : Int) (w : World) (h3 : -1 ≤ l) (h4 : l ≤ 1048576) (hn : n ≤ 9223372036854775807) (hc : n ≤ c) (hg : g < w.heap.size) (lo : Nat) (hb : b ≤ w.heap.size)
    (hf : ∀ i, i < n → FineR (rs.getD i default)) (hh : ∀ i, i < n → Heads w lo b (H i) (rs.getD i default).heads)
    (ha : ∀ i, i < n → ∀ j, j < 6 → w.cell? ⟨g, o + i * 6 + j, none⟩ = some (recCells rs H i j)) :
    Calls Try.prog 54 #[.slice (some ⟨g, o, none⟩) n c, .int .i64 l] w fun e w' => ∃ r, e = .returned (.int .i64 r) ∧ -1 ≤ r ∧ r ≤ l ∧ (0 ≤ r → (n : Int) ≤ l ∧ ∀ i, i < n → FewR (rs.getD i default)) ∧ Below w.heap.size w w' := by
  have HA := Seg.hid ha
  have HK := Seg.hid hf
  have HH := Seg.hid hh
  clear ha hf hh
  go_enter Try.func54, Try.ntmps54
  by_cases hlt : l - (n : Int) < 0
  · go_wp2
    go_ret
    exact ⟨_, rfl, by omega, by omega, fun h => absurd h (by omega), Below.refl _ _⟩
  go_wp2
  go_loopw [1, 5] (fun x i wr => ∃ (k : Nat) (r : Int), k ≤ n ∧ x = .int .i64 r ∧ i = .int .i64 k ∧ 0 ≤ r ∧ r ≤ l ∧ Hid (Below w.heap.size w wr ∧ ∀ i, i < k → FewR (rs.getD i default))) (fun _ i _ => n - (intOf i).toNat)
  case atStart => exact ⟨0, l - n, Nat.zero_le _, rfl, rfl, by omega, by omega, Below.refl _ _, fun i hi => absurd hi (by omega)⟩
  case round =>
    obtain ⟨k, r, hk, rfl, rfl, hr0, hr1, HB⟩ := hrel
    by_cases hlt2 : k < n
    · obtain ⟨c0, c1, c2, c3, c4, c5⟩ := six (six' HA.out HB.out.1 hg) k hlt2
      have RA : Hid (RecAt wr lo b (.agg #[.int .i64 (rs.getD k default).time, .bool (rs.getD k default).keyed, .string (rs.getD k default).key, .bool (rs.getD k default).gone, .string (rs.getD k default).val, H k]) (rs.getD k default)) := ⟨_, rfl, (HH.out k hlt2).below (HB.out.1.mono hb)⟩
      have h0 : (0 : Int) ≤ (k : Int) := by omega
      have h1 : (k : Int) < (n : Int) := by omega
      have hbr : b ≤ wr.heap.size := Nat.le_trans hb HB.out.1.size
      generalize hrk : rs.getD k default = rk at *
      go_wp2_with fail
      refine (RecW.szRecord_any _ rk r wr lo b (by omega) (by omega) RA.out hbr (hrk ▸ HK.out k hlt2)).mono ?_
      rintro e w1 ⟨r1, rfl, hr2, hr3, hfw, b1⟩
      have B1 := Seg.hid (chain HB.out.1 b1)
      have FW := Seg.hid hfw
      clear b1 hfw
      by_cases hneg : r1 < 0
      · go_wp2
        go_ret
        exact ⟨-1, rfl, by omega, by omega, fun h => absurd h (by omega), B1.out⟩
      · go_wp2
        go_roundw
        case rel =>
          refine ⟨k + 1, r1, by omega, rfl, by go_num, by omega, by omega, B1.out, fun i hi => ?_⟩
          by_cases he : i = k
          · subst he; rw [hrk]; exact FW.out (by omega)
          · exact HB.out.2 i (by omega)
        case measure => simp [intOf]; omega
    · have : k = n := by omega
      subst this
      go_wp2
      go_ret
      exact ⟨r, rfl, by omega, by omega, fun _ => ⟨by omega, HB.out.2⟩, HB.out.1⟩

theorem szRecordS_any (v : Value) (rs : List Rec) (l : Int) (w : World) (lo b : Nat) (h3 : -1 ≤ l) (h4 : l ≤ 1048576) (hv : RecsAt w lo b v rs) (hb : b ≤ w.heap.size) (hf : ∀ i, i < rs.length → FineR (rs.getD i default)) :
    Calls Try.prog 54 #[v, .int .i64 l] w fun e w' => ∃ r, e = .returned (.int .i64 r) ∧ -1 ≤ r ∧ r ≤ l ∧ (0 ≤ r → (rs.length : Int) ≤ l ∧ ∀ i, i < rs.length → FewR (rs.getD i default)) ∧ Below w.heap.size w w' := by
  obtain ⟨H, ⟨hn, A, c, rfl, h⟩, hh⟩ := hv
  by_cases hz : rs.length = 0
  · rw [hz]
    exact (szRecordS_none A c l w h3 h4).mono fun e w' ⟨r, a1, a2, a3, a4⟩ => ⟨r, a1, a2, a3, fun h => ⟨by omega, fun i hi => absurd hi (by omega)⟩, a4⟩
  obtain ⟨g, o, rfl, hg, hc, hcell, _⟩ := h.resolve_left hz
  exact szRecordS_core g o rs.length c b rs H l w h3 h4 hn hc (by omega) lo hb hf hh hcell
end Go.Proofs.Ytdnbcfochlfopaa.RecsW
namespace Go.Proofs.Ytdnbcfochlfopaa.WrB
set_option maxRecDepth 8000
open Go.RowKit
open Seg (B)
open SqP (Out grow)
open Nums (put)
open PuI (Ext below_grown out_below out_lt)
open PuT (ints_new kept one_in nums1 putTextIf_any putHeads_any)
open WrP
open Recs (Hd Rec Heads RecsAt below1 hsz recCells)
set_option linter.unusedVariables false

/-- A round's variable lies at the old end of memory; what is out is this. -/
structure Mid (wr w : World) (base g1 : Nat) (X : Obj) (cur : List Int) (g2 cap2 : Nat) : Prop where
  out : Out w base g2 cap2 cur
  at_ : g2 = g1 ∨ wr.heap.size + 1 ≤ g2
  lt : g1 < wr.heap.size
  gr : (wr.alloc X).grownBy w (some g1)
  var : w.heap[wr.heap.size]? = some X
theorem Mid.start {wr : World} {base g1 cap1 : Nat} {X : Obj} {cur : List Int} (h : Out wr base g1 cap1 cur) : Mid wr (wr.alloc X) base g1 X cur g1 cap1 :=
  ⟨World.ownsRow.alloc h _, .inl rfl, (out_lt h).2, World.grownBy.refl _ _, heap_alloc_new _ _⟩
theorem Mid.step {wr w w' : World} {base g1 g2 cap2 : Nat} {X : Obj} {cur l : List Int} {e : Ending} (h : Mid wr w base g1 X cur g2 cap2) (E : Ext w w' base g2 l e) :
    ∃ g3 cap3, e = .returned (.slice (some ⟨g3, 0, none⟩) l.length cap3) ∧ Mid wr w' base g1 X l g3 cap3 := by
  obtain ⟨⟨g3, cap3, rfl, o3, h3⟩, gr3⟩ := E
  have s1 := h.gr.size
  rw [hsz] at s1
  have a := h.at_; have b := h.lt
  refine ⟨g3, cap3, rfl, o3, by omega, b, ?_, kept h.var gr3 (by omega)⟩
  exact grow h.gr gr3 (by rw [hsz]; omega)
theorem Mid.size {wr w : World} {base g1 g2 cap2 : Nat} {X : Obj} {cur : List Int} (h : Mid wr w base g1 X cur g2 cap2) : wr.heap.size < w.heap.size := by
  have := h.gr.size
  rw [hsz] at this
  omega
theorem Mid.below {w0 wr w : World} {base g1 g2 cap2 : Nat} {X : Obj} {cur : List Int} (h : Mid wr w base g1 X cur g2 cap2) (hb : Below base w0 wr) (hg : base ≤ g1) : Below base w0 w := by
  have := h.lt
  exact (hb.alloc (by omega) _).grown h.gr (by rw [hsz]; omega) (fun k hk => by cases hk; exact hg)

/-- Where the body stands: what is out, the records from the k-th on are still to be put. -/
structure AtB (w wr : World) (ver : Int) (rs : List Rec) (k : Nat) (tm : Int) (v : Value) (cur : List Int) : Prop where
  le : k ≤ rs.length
  tl : 0 ≤ tm ∧ tm ≤ 1000000000000
  ou : ∃ g cap, v = .slice (some ⟨g, 0, none⟩) cur.length cap ∧ Out wr w.heap.size g cap cur
  eq : cur ++ recs ver tm (rs.drop k) = body ver rs
  bl : Below w.heap.size w wr
theorem AtB.next {w wr w' : World} {ver tm : Int} {rs : List Rec} {k g1 g2 cap2 : Nat} {v : Value} {cur : List Int} {X : Obj} {r : Rec} (h : AtB w wr ver rs k tm v cur) (hk : k < rs.length) (hr : rs.getD k default = r) (hok : ROk.okR r = true)
    (hb : w.heap.size ≤ g1) (M : Mid wr w' w.heap.size g1 X (cur ++ rec1 ver tm r) g2 cap2) {n : Nat} (hn : n = (cur ++ rec1 ver tm r).length) : AtB w w' ver rs (k + 1) r.time (.slice (some ⟨g2, 0, none⟩) n cap2) (cur ++ rec1 ver tm r) := by
  obtain ⟨t1, t2, _⟩ := okR_parts hok
  refine ⟨hk, ⟨t1, t2⟩, ⟨g2, cap2, by rw [hn], M.out⟩, ?_, M.below h.bl hb⟩
  rw [← h.eq, recs_at ver tm hk, hr, List.append_assoc]
theorem AtB.len {w wr : World} {ver tm : Int} {rs : List Rec} {k : Nat} {v : Value} {cur : List Int} (h : AtB w wr ver rs k tm v cur) (ha : rs.all ROk.okR = true) (hl : rs.length ≤ 40) : cur.length ≤ 37000 := by
  have h1 := congrArg List.length h.eq
  have h2 := body_le ver rs ha hl
  rw [List.length_append] at h1
  omega
theorem all_at {rs : List Rec} {i : Nat} (hi : i < rs.length) (h : rs.all ROk.okR = true) : ROk.okR (rs.getD i default) = true := by
  rw [List.all_eq_true] at h
  have := h rs[i] (List.getElem_mem hi)
  simpa [hi] using this

/-- The six cells of a record's variable. -/
theorem six_of {w : World} {x tp : Nat} {t : Int} {kd : Bool} {k : ByteArray} {gn : Bool} {v : ByteArray} {hv : Value} (h : w.heap[x]? = some (.cells #[.int .i64 t, .bool kd, .string k, .bool gn, .string v, hv] tp (0, 0))) :
    w.cell? ⟨x, 0, none⟩ = some (.int .i64 t) ∧ w.cell? ⟨x, 1, none⟩ = some (.bool kd) ∧ w.cell? ⟨x, 2, none⟩ = some (.string k) ∧ w.cell? ⟨x, 3, none⟩ = some (.bool gn) ∧ w.cell? ⟨x, 4, none⟩ = some (.string v) ∧ w.cell? ⟨x, 5, none⟩ = some hv :=
  ⟨cell_of_row w _ 0 _ _ (0, 0) h, cell_of_row w _ 1 _ _ (0, 0) h, cell_of_row w _ 2 _ _ (0, 0) h, cell_of_row w _ 3 _ _ (0, 0) h, cell_of_row w _ 4 _ _ (0, 0) h, cell_of_row w _ 5 _ _ (0, 0) h⟩

set_option maxHeartbeats 3200000 in
theorem writeBody_any (v : Value) (rs : List Rec) (ver : Int) (w : World) (lo b : Nat) (hv : RecsAt w lo b v rs) (hb : b ≤ w.heap.size) (hl : rs.length ≤ 40) (ha : rs.all ROk.okR = true) :
    Calls Try.prog 35 #[v, .int .i64 ver] w fun e w' => ∃ g cap, e = .returned (.slice (some ⟨g, 0, none⟩) (body ver rs).length cap) ∧ Out w' w.heap.size g cap (body ver rs) ∧ Below w.heap.size w w' := by
  obtain ⟨H, ⟨hn, A, c, rfl, hrow⟩, hh⟩ := hv
  have HR := Seg.hid hrow; have HA := Seg.hid ha; have HH := Seg.hid hh
  clear hrow ha hh
  go_enter Try.func35, Try.ntmps35
  go_wp2_with fail
  refine (ints_new w.heap.size 0 w.heap.size [] [(rs.length : Int)] (w.alloc _) 3 _ (hsz w _) (by simp) (by simp) (one_in (by omega)) (World.ownsRow_lit w #[] 0 (Nat.le_refl _) (Nat.zero_le _) rfl) (by rw [hsz]; omega)).mono ?_
  rintro e w1 hE
  rw [nums1, List.nil_append] at hE
  obtain ⟨l1, hl1⟩ : ∃ l1, put (rs.length : Int) = l1 := ⟨_, rfl⟩
  have HL1 := Seg.hid hl1
  rw [hl1] at hE
  clear hl1
  obtain ⟨⟨g1, cap1, rfl, o1, h1⟩, gr1⟩ := hE
  have A0 : Hid (AtB w w1 ver rs 0 0 (.slice (some ⟨g1, 0, none⟩) l1.length cap1) l1) := ⟨Nat.zero_le _, ⟨by decide, by decide⟩, ⟨g1, cap1, rfl, o1⟩, (by rw [← HL1.out]; rfl), (below1 w _).grown gr1 (by rw [hsz]; omega) (fun k hk => by cases hk; exact Nat.le_refl _)⟩
  clear o1 h1 gr1
  go_wp2
  go_loopw [5, 6, 16] (fun v t i wr => ∃ (k : Nat) (tm : Int) (cur : List Int), i = .int .i64 k ∧ t = .int .i64 tm ∧ AtB w wr ver rs k tm v cur) (fun _ _ i _ => rs.length - (intOf i).toNat)
  case atStart => exact ⟨0, 0, l1, rfl, rfl, A0.out⟩
  case round =>
    clear A0
    obtain ⟨k, tm, cur, rfl, rfl, P⟩ := hrel
    have HP := Seg.hid P
    have hcl := P.len HA.out hl
    have hle := P.le
    obtain ⟨tl0, tl1⟩ := P.tl
    obtain ⟨g2, cap2, rfl, o2⟩ := P.ou
    have O2 := Seg.hid o2
    have hg2 := (out_lt o2).1
    have hbl := P.bl.size
    clear P o2
    by_cases hlt : k < rs.length
    · obtain ⟨gr, o, rfl, hgr, hc, hcell, _⟩ := HR.out.resolve_left (by omega)
      obtain ⟨c0, c1, c2, c3, c4, c5⟩ := RecsW.six (RecsW.six' hcell HP.out.bl (by omega)) k hlt
      have HHk := Seg.hid (HH.out k hlt)
      obtain ⟨_, Ah, ch, hHe, _⟩ := HH.out k hlt
      rw [hHe] at c5 HHk
      have OK := Seg.hid (all_at hlt HA.out)
      obtain ⟨r, hr⟩ : ∃ r, rs.getD k default = r := ⟨_, rfl⟩
      have HRk := Seg.hid hr
      rw [hr] at c0 c1 c2 c3 c4 c5 HHk OK
      obtain ⟨q1, q2, q3, q4, q5, q6⟩ := okR_parts OK.out
      have Q6 := Seg.hid q6
      have h0 : (0 : Int) ≤ (k : Int) := by omega
      have h1 : (k : Int) < (rs.length : Int) := by omega
      clear hcell hr hHe q6
      have d1 := WrP.put_le (r.time - tm) (by omega)
      have d2 := WrP.txtIf_le r.keyed r.key q3
      have d3 := WrP.txtIf_le (!r.gone) r.val q4
      go_wp2_with fail
      refine (ints_new g2 cap2 w.heap.size cur [r.time - tm] (wr.alloc _) 3 _ (hsz wr _) (by simp) (by omega) (one_in (by omega)) (World.ownsRow.alloc O2.out _) (by rw [hsz]; omega)).mono ?_
      rintro e w3 hE
      rw [nums1] at hE
      obtain ⟨l3, hl3⟩ : ∃ l3, cur ++ put (r.time - tm) = l3 := ⟨_, rfl⟩
      have hl3l : l3.length ≤ 38000 := by rw [← hl3, List.length_append]; omega
      rw [hl3] at hE
      have HL3 := Seg.hid hl3
      obtain ⟨g3, cap3, rfl, m3⟩ := (Mid.start O2.out).step hE
      have M3 := Seg.hid m3
      have s3 := m3.size
      obtain ⟨e0, e1, e2, e3, e4, e5⟩ := six_of m3.var
      clear m3 hE hl3
      go_wp2_with fail
      refine (putTextIf_any g3 cap3 w.heap.size l3 r.keyed r.key w3 (by omega) (by omega) M3.out.out (by omega)).mono ?_
      rintro e w4 hE
      obtain ⟨l4, hl4⟩ : ∃ l4, l3 ++ txtIf r.keyed r.key = l4 := ⟨_, rfl⟩
      have hl4l : l4.length ≤ 38200 := by rw [← hl4, List.length_append]; omega
      rw [hl4] at hE
      have HL4 := Seg.hid hl4
      obtain ⟨g4, cap4, rfl, m4⟩ := M3.out.step hE
      have M4 := Seg.hid m4
      have s4 := m4.size
      clear e0 e1 e2 e3 e4 e5
      obtain ⟨e0, e1, e2, e3, e4, e5⟩ := six_of m4.var
      clear m4 hE hl4
      go_wp2_with fail
      refine (putTextIf_any g4 cap4 w.heap.size l4 (!r.gone) r.val w4 (by omega) (by omega) M4.out.out (by omega)).mono ?_
      rintro e w5 hE
      obtain ⟨l5, hl5⟩ : ∃ l5, l4 ++ txtIf (!r.gone) r.val = l5 := ⟨_, rfl⟩
      have hl5l : l5.length ≤ 38400 := by rw [← hl5, List.length_append]; omega
      rw [hl5] at hE
      have HL5 := Seg.hid hl5
      obtain ⟨g5, cap5, rfl, m5⟩ := M4.out.step hE
      have M5 := Seg.hid m5
      have s5 := m5.size
      clear e0 e1 e2 e3 e4 e5
      obtain ⟨e0, e1, e2, e3, e4, e5⟩ := six_of m5.var
      clear m5 hE hl5
      by_cases hv2 : ver = 2
      · have ht2 : (ver == 2) = true := by simp [hv2]
        have HF : Hid (l5 ++ hds r.heads = cur ++ rec1 ver tm r) := by
          show _ = _
          rw [← HL5.out, ← HL4.out, ← HL3.out, rec1, hdsV, if_pos hv2]
          simp only [List.append_assoc]
        clear hv2
        go_wp2_with fail
        refine (putHeads_any g5 cap5 w.heap.size lo b l5 _ r.heads w5 (by omega) (by omega) Q6.out (HHk.out.below ((M5.out.below HP.out.bl hg2).mono hb)) hb M5.out.out (by omega)).mono ?_
        rintro e w6 hE
        rw [HF.out] at hE
        obtain ⟨g6, cap6, rfl, m6⟩ := M5.out.step hE
        have N6 := Seg.hid (fun n hn => AtB.next (n := n) HP.out hlt HRk.out OK.out hg2 m6 hn)
        clear m6 hE
        go_wp2
        go_roundw
        case rel => exact ⟨k + 1, r.time, _, by go_num, rfl, N6.out _ (by simp)⟩
        case measure => simp [intOf]; omega
      · have ht2 : (ver == 2) = false := by simp [hv2]
        have HF : Hid (l5 = cur ++ rec1 ver tm r) := by
          show _ = _
          rw [← HL5.out, ← HL4.out, ← HL3.out, rec1, hdsV, if_neg hv2]
          simp only [List.append_assoc, List.append_nil]
        clear hv2
        have N6 : Hid (AtB w w5 ver rs (k + 1) r.time (.slice (some ⟨g5, 0, none⟩) l5.length cap5) (cur ++ rec1 ver tm r)) := AtB.next HP.out hlt HRk.out OK.out hg2 (HF.out ▸ M5.out) (by rw [HF.out])
        go_wp2
        go_roundw
        case rel => exact ⟨k + 1, r.time, _, by go_num, rfl, N6.out⟩
        case measure => simp [intOf]; omega
    · obtain rfl : k = rs.length := by omega
      have HE : Hid (cur = body ver rs) := by
        have := HP.out.eq
        rw [List.drop_length, recs, List.append_nil] at this
        exact this
      go_wp2
      go_ret
      exact ⟨g2, cap2, by rw [← HE.out]; rfl, HE.out ▸ O2.out, HP.out.bl⟩
end Go.Proofs.Ytdnbcfochlfopaa.WrB
