/- l2Body of the model. (Written by gen_wrs.py.). -/
import Derived.Test.YtoplbemolnpngaaGreatJP38
namespace Go.Proofs.YtoplbemolnpngaaGreat.WrS
set_option maxRecDepth 8000
open Go.RowKit
open Seg (B)
open SqP (Out app grow)
open Nums (put)
open PuI (Ext below_grown out_below out_lt out_cell)
open PuT (kept)
open AppS (appS run_appS)
open WrB (Mid AtB six_of all_at)
open WrP
open Recs
set_option linter.unusedVariables false

/-- Where the Heads stand. -/
structure AtH (wr wk : World) (base g1 : Nat) (X : Obj) (l5 : List Int) (hs : List Hd) (k : Nat) (v : Value) (cur : List Int) : Prop where
  le : k ≤ hs.length
  ou : ∃ g cap, v = .slice (some ⟨g, 0, none⟩) cur.length cap ∧ Mid wr wk base g1 X cur g cap
  eq : cur ++ hdsB (hs.drop k) = l5 ++ hdsB hs
theorem AtH.next {wr wk w' : World} {base g1 g cap n : Nat} {X : Obj} {l5 cur : List Int} {hs : List Hd} {k : Nat} {v : Value} {h : Hd} (H : AtH wr wk base g1 X l5 hs k v cur) (hk : k < hs.length) (hh : hs.getD k default = h) (M : Mid wr w' base g1 X (cur ++ hd h) g cap) (hn : n = (cur ++ hd h).length) :
    AtH wr w' base g1 X l5 hs (k + 1) (.slice (some ⟨g, 0, none⟩) n cap) (cur ++ hd h) := by
  refine ⟨hk, ⟨g, cap, by rw [hn], M⟩, ?_⟩
  rw [← H.eq, hdsB_at hk, hh, List.append_assoc]
theorem AtH.len {wr wk : World} {base g1 : Nat} {X : Obj} {l5 cur : List Int} {hs : List Hd} {k : Nat} {v : Value} (H : AtH wr wk base g1 X l5 hs k v cur) (ha : hs.all ROk.okH = true) (hl : hs.length ≤ 3) : cur.length ≤ l5.length + 660 := by
  have h1 := congrArg List.length H.eq
  have h2 := hdsB_le hs ha
  simp only [List.length_append] at h1
  omega
theorem heads_mid {w0 wr wk : World} {base g1 g cap b gh o n : Nat} {X : Obj} {cur : List Int} {hs : List Hd} (M : Mid wr wk base g1 X cur g cap) (hb : Below base w0 wr) (hg : base ≤ g1) (hbb : b ≤ base) (hgh : gh < b) (hcell : ∀ i, i < n → ∀ j, j < 2 → w0.cell? ⟨gh, o + i * 2 + j, none⟩ = some (hdCells hs i j)) :
    ∀ i, i < n → ∀ j, j < 2 → wk.cell? ⟨gh, o + i * 2 + j, none⟩ = some (hdCells hs i j) := fun i hi j hj => by
  rw [(M.below hb hg).cell (p := ⟨gh, o + i * 2 + j, none⟩) (by show gh < base; omega)]
  exact hcell i hi j hj
theorem okH_at {hs : List Hd} {k : Nat} (h : hs.all ROk.okH = true) (hk : k < hs.length) : ROk.okH (hs.getD k default) = true := List.all_eq_true.1 h (hs.getD k default) (by simp [hk])

set_option maxHeartbeats 100000000 in
theorem l2Body_any (v : Value) (t : Bat) (ver : Int) (w : World) (lo b : Nat) (hv : BatAt w lo b v t) (hb : b ≤ w.heap.size) (hl : t.recs.length ≤ 40) (ha : t.recs.all ROk.okR = true) :
    Calls Tryz.prog 60 #[v, .int .i64 ver] w fun e w' => ∃ g cap, e = .returned (.slice (some ⟨g, 0, none⟩) (body ver t.recs).length cap) ∧ Out w' (w.heap.size + 1) g cap (body ver t.recs) ∧ Below w.heap.size w w' := by
  obtain ⟨rv, rfl, hrs⟩ := hv
  obtain ⟨H, ⟨hn, A, c, rfl, hrow⟩, hh⟩ := hrs
  have HR := Seg.hid hrow; have HA := Seg.hid ha; have HH := Seg.hid hh
  clear hrow ha hh
  unfold batVal
  go_enter Tryz.func60, Tryz.ntmps60
  go_wp2_with fail
  have V0 : Hid ((w.alloc (.cells (BatW.batArr t (.slice A t.recs.length c)) 38 (0, 0))).heap[w.heap.size]? = some (.cells (BatW.batArr t (.slice A t.recs.length c)) 38 (0, 0))) := heap_alloc_new _ _
  have B0 : Hid (Below w.heap.size w (w.alloc (.cells (BatW.batArr t (.slice A t.recs.length c)) 38 (0, 0)))) := below1 w _
  have S0 : (w.alloc (.cells (BatW.batArr t (.slice A t.recs.length c)) 38 (0, 0))).heap.size = w.heap.size + 1 := hsz w _
  change Calls _ _ _ (w.alloc (.cells (BatW.batArr t (.slice A t.recs.length c)) 38 (0, 0))) _
  obtain ⟨w0, hw0⟩ : ∃ w0, w.alloc (.cells (BatW.batArr t (.slice A t.recs.length c)) 38 (0, 0)) = w0 := ⟨_, rfl⟩
  rw [hw0] at V0 B0 S0 ⊢
  clear hw0
  have hb0 : b ≤ w0.heap.size := by omega
  refine (Put.spec_any (t.recs.length : Int) w0 (by omega) (by omega)).mono ?_
  rintro e w1 ⟨g1, cap1, rfl, o1, b1⟩
  obtain ⟨l1, hl1⟩ : ∃ l1, put (t.recs.length : Int) = l1 := ⟨_, rfl⟩
  have HL1 := Seg.hid hl1
  rw [hl1] at o1 ⊢
  clear hl1
  have A0 : Hid (AtB w0 w1 ver t.recs 0 0 (.slice (some ⟨g1, 0, none⟩) l1.length cap1) l1) := ⟨Nat.zero_le _, ⟨by decide, by decide⟩, ⟨g1, cap1, rfl, o1⟩, (by rw [← HL1.out]; rfl), b1⟩
  clear o1 b1
  go_wp2
  go_loopw [5, 6, 7] (fun v tt i wr => ∃ (k : Nat) (tm : Int) (cur : List Int), i = .int .i64 k ∧ tt = .int .i64 tm ∧ AtB w0 wr ver t.recs k tm v cur) (fun _ _ i _ => t.recs.length - (intOf i).toNat)
  case atStart => exact ⟨0, 0, l1, rfl, rfl, A0.out⟩
  case round =>
    clear A0
    obtain ⟨k, tm, cur, rfl, rfl, P⟩ := hrel
    have HP := Seg.hid P
    have hcl := P.len HA.out hl
    have hle := P.le
    obtain ⟨tl0, tl1⟩ := P.tl
    obtain ⟨g2, cap2, rfl, o2⟩ := P.ou
    have O2 := Seg.hid o2
    have hg2 := (out_lt o2).1
    have hbl := P.bl.size
    have f6 : wr.cell? ⟨w.heap.size, 6, none⟩ = some (.slice A t.recs.length c) := (P.bl.cell (p := ⟨w.heap.size, 6, none⟩) (by show w.heap.size < _; omega)).trans (cell_of_row w0 _ 6 _ _ (0, 0) V0.out)
    clear P o2
    by_cases hlt : k < t.recs.length
    · obtain ⟨gr, o, rfl, hgr, hc, hcell, _⟩ := HR.out.resolve_left (by omega)
      have hcell0 : ∀ i, i < t.recs.length → ∀ j, j < 6 → w0.cell? ⟨gr, o + i * 6 + j, none⟩ = some (recCells t.recs H i j) := RecsW.six' hcell B0.out (by omega)
      obtain ⟨c0, c1, c2, c3, c4, c5⟩ := RecsW.six (RecsW.six' hcell0 HP.out.bl (by omega)) k hlt
      obtain ⟨_, Ah, ch, hHe, hHc⟩ := (HH.out k hlt).below (B0.out.mono hb)
      rw [hHe] at c5
      have HHc := Seg.hid hHc
      have OK := Seg.hid (all_at hlt HA.out)
      obtain ⟨r, hr⟩ : ∃ r, t.recs.getD k default = r := ⟨_, rfl⟩
      have HRk := Seg.hid hr
      rw [hr] at c0 c1 c2 c3 c4 c5 OK HHc
      obtain ⟨q1, q2, q3, q4, q5, q6⟩ := okR_parts OK.out
      have Q6 := Seg.hid q6
      have h0 : (0 : Int) ≤ (k : Int) := by omega
      have h1 : (k : Int) < (t.recs.length : Int) := by omega
      clear hcell hcell0 hr hHe hHc q6
      obtain ⟨l2, hl2⟩ : ∃ l, cur = l := ⟨_, rfl⟩
      have HL2 := Seg.hid hl2
      have M2 : Hid (Mid wr (wr.alloc (.cells #[.int .i64 r.time, .bool r.keyed, .string r.key, .bool r.gone, .string r.val, .slice Ah r.heads.length ch] 75 (0, 0))) w0.heap.size g2 (.cells #[.int .i64 r.time, .bool r.keyed, .string r.key, .bool r.gone, .string r.val, .slice Ah r.heads.length ch] 75 (0, 0)) l2 g2 cap2) := Mid.start (hl2 ▸ O2.out)
      have z2 := M2.out.size
      rw [hl2] at hcl ⊢
      clear hl2
      obtain ⟨kd, hkd⟩ : ∃ x, r.keyed = x := ⟨_, rfl⟩
      obtain ⟨gn, hgn⟩ : ∃ x, r.gone = x := ⟨_, rfl⟩
      have HK := Seg.hid hkd
      have HG := Seg.hid hgn
      rw [hkd] at c1 M2
      rw [hgn] at c3 M2
      clear hkd hgn
      rcases kd with _ | _ <;> rcases gn with _ | _ <;> by_cases hv2 : ver = 2
      · have ht2 : (ver == 2) = true := by simp [hv2]
        replace hv2 := Seg.hid hv2
        go_wp2_with fail
        refine (Put.spec_any (r.time - tm) (wr.alloc _) (by omega) (by omega)).mono ?_
        rintro e w3a ⟨g3a, cap3a, rfl, o3a, b3a⟩
        obtain ⟨x3, hx3⟩ : ∃ y : Int, (r.time - tm) = y := ⟨_, rfl⟩
        have hp3 := put_le x3 (by omega)
        rw [hx3] at o3a ⊢
        have HX3 := Seg.hid hx3
        have O3a := Seg.hid o3a; have B3a := Seg.hid b3a
        have z3a := b3a.size
        try rw [hsz] at z3a
        clear o3a b3a hx3
        go_wp2_with (at_builtin; refine app rfl (.tmp 26) (.tmp 31) rfl w0.heap.size g2 cap2 l2 (put x3) ?zzs ?zzo ⟨g3a, 0, none⟩ cap3a ?zzx ?zzn ?zzm ?zzb ?zzba ?_; (case zzs => rfl); (case zzo => exact out_below M2.out.out B3a.out); (case zzx => rfl); (case zzn => exact fun j hj => out_cell (l := put x3) O3a.out j hj); (case zzm => exact Nums.put_pos x3); (case zzb => omega); (case zzba => omega); intro g3 cap3 w3 o3 gr3 at3; have M3 := Seg.hid (Mid.ext M2.out (num_ext B3a.out o3 gr3 at3)); have s3 := M3.out.size; clear o3 gr3 at3; obtain ⟨e0, e1, e2, e3, e4, e5⟩ := six_of M3.out.var)
        obtain ⟨l3, hl3⟩ : ∃ l, l2 ++ put x3 = l := ⟨_, rfl⟩
        have hl3e : l2.length + (put x3).length = l3.length := by rw [← hl3, List.length_append]
        have HL3 : Hid (l2 ++ put (r.time - tm) = l3) := by rw [HX3.out]; exact hl3
        rw [hl3] at M3
        rw [hl3e]
        have hl3l : l3.length ≤ 38000 := by omega
        clear hl3 hl3e
        go_wp2_with fail
        refine (Put.spec_any (-1) w3 (by omega) (by omega)).mono ?_
        rintro e w4a ⟨g4a, cap4a, rfl, o4a, b4a⟩
        obtain ⟨x4, hx4⟩ : ∃ y : Int, (-1) = y := ⟨_, rfl⟩
        have hp4 := put_le x4 (by omega)
        rw [hx4] at o4a ⊢
        have HX4 := Seg.hid hx4
        have O4a := Seg.hid o4a; have B4a := Seg.hid b4a
        have z4a := b4a.size
        try rw [hsz] at z4a
        clear o4a b4a hx4
        go_wp2_with (at_builtin; refine app rfl (.tmp 41) (.tmp 42) rfl w0.heap.size g3 cap3 l3 (put x4) ?zzs ?zzo ⟨g4a, 0, none⟩ cap4a ?zzx ?zzn ?zzm ?zzb ?zzba ?_; (case zzs => rfl); (case zzo => exact out_below M3.out.out B4a.out); (case zzx => rfl); (case zzn => exact fun j hj => out_cell (l := put x4) O4a.out j hj); (case zzm => exact Nums.put_pos x4); (case zzb => omega); (case zzba => omega); intro g4 cap4 w4 o4 gr4 at4; have M4 := Seg.hid (Mid.ext M3.out (num_ext B4a.out o4 gr4 at4)); have s4 := M4.out.size; clear o4 gr4 at4; clear e0 e1 e2 e3 e4 e5; obtain ⟨e0, e1, e2, e3, e4, e5⟩ := six_of M4.out.var)
        obtain ⟨l4, hl4⟩ : ∃ l, l3 ++ put x4 = l := ⟨_, rfl⟩
        have hl4e : l3.length + (put x4).length = l4.length := by rw [← hl4, List.length_append]
        have HL4 : Hid (l3 ++ put (-1) = l4) := by rw [HX4.out]; exact hl4
        rw [hl4] at M4
        rw [hl4e]
        have hl4l : l4.length ≤ 38200 := by omega
        clear hl4 hl4e
        go_wp2_with fail
        refine (l2Text_any g4 cap4 w0.heap.size l4 r.val w4 (by omega) (by omega) M4.out.out (by omega)).mono ?_
        rintro e w5 hE
        have hd5 := txtIf_le true r.val (by omega)
        obtain ⟨l5, hl5⟩ : ∃ l, l4 ++ txtIf true r.val = l := ⟨_, rfl⟩
        have hl5l : l5.length ≤ 38400 := by rw [← hl5, List.length_append]; omega
        rw [hl5] at hE
        have HL5 := Seg.hid hl5
        obtain ⟨g5, cap5, rfl, m5⟩ := M4.out.step hE
        have M5 := Seg.hid m5
        have s5 := m5.size
        clear m5 hE hl5 e0 e1 e2 e3 e4 e5
        obtain ⟨e0, e1, e2, e3, e4, e5⟩ := six_of M5.out.var
        go_wp2_with fail
        refine (Put.spec_any (r.heads.length : Int) w5 (by omega) (by omega)).mono ?_
        rintro e w6a ⟨g6a, cap6a, rfl, o6a, b6a⟩
        obtain ⟨x6, hx6⟩ : ∃ y : Int, (r.heads.length : Int) = y := ⟨_, rfl⟩
        have hp6 := put_le x6 (by omega)
        rw [hx6] at o6a ⊢
        have HX6 := Seg.hid hx6
        have O6a := Seg.hid o6a; have B6a := Seg.hid b6a
        have z6a := b6a.size
        try rw [hsz] at z6a
        clear o6a b6a hx6
        go_wp2_with (at_builtin; refine app rfl (.tmp 55) (.tmp 59) rfl w0.heap.size g5 cap5 l5 (put x6) ?zzs ?zzo ⟨g6a, 0, none⟩ cap6a ?zzx ?zzn ?zzm ?zzb ?zzba ?_; (case zzs => rfl); (case zzo => exact out_below M5.out.out B6a.out); (case zzx => rfl); (case zzn => exact fun j hj => out_cell (l := put x6) O6a.out j hj); (case zzm => exact Nums.put_pos x6); (case zzb => omega); (case zzba => omega); intro g6 cap6 w6 o6 gr6 at6; have M6 := Seg.hid (Mid.ext M5.out (num_ext B6a.out o6 gr6 at6)); have s6 := M6.out.size; clear o6 gr6 at6; clear e0 e1 e2 e3 e4 e5; obtain ⟨e0, e1, e2, e3, e4, e5⟩ := six_of M6.out.var)
        obtain ⟨l6, hl6⟩ : ∃ l, l5 ++ put x6 = l := ⟨_, rfl⟩
        have hl6e : l5.length + (put x6).length = l6.length := by rw [← hl6, List.length_append]
        have HL6 : Hid (l5 ++ put (r.heads.length : Int) = l6) := by rw [HX6.out]; exact hl6
        rw [hl6] at M6
        rw [hl6e]
        have hl6l : l6.length ≤ 38500 := by omega
        clear hl6 hl6e
        obtain ⟨wo, rfl⟩ : ∃ x, x = wr := ⟨_, rfl⟩
        have H6 : Hid (AtH wo w6 w0.heap.size g2 (.cells #[.int .i64 r.time, .bool false, .string r.key, .bool false, .string r.val, .slice Ah r.heads.length ch] 75 (0, 0)) l6 r.heads 0 (.slice (some ⟨g6, 0, none⟩) l6.length cap6) l6) := ⟨Nat.zero_le _, ⟨g6, cap6, rfl, M6.out⟩, rfl⟩
        have HF : Hid (l6 ++ hdsB r.heads = cur ++ rec1 ver tm r) := by
          have a1 := HL3.out; have a2 := HL4.out; have a3 := HL5.out; have a4 := HL6.out
          show _ = _
          rw [HL2.out, rec1, hdsV, if_pos hv2.out, hds, HK.out, HG.out, ← a4, ← a3, ← a2, ← a1]
          simp [txtIf]
        clear e0 e1 e2 e3 e4 e5 c0 c1 c2 c3 c4 c5 f6
        go_wp2_with fail
        go_loopw [5, 9] (fun v i wk => ∃ (j : Nat) (cu : List Int), i = .int .i64 j ∧ AtH wo wk w0.heap.size g2 (.cells #[.int .i64 r.time, .bool false, .string r.key, .bool false, .string r.val, .slice Ah r.heads.length ch] 75 (0, 0)) l6 r.heads j v cu) (fun _ i _ => r.heads.length - (intOf i).toNat)
        case atStart => exact ⟨0, l6, rfl, H6.out⟩
        case round =>
          clear H6
          obtain ⟨j, cu, rfl, PH⟩ := hrel
          have HPH := Seg.hid PH
          have hcu := PH.len Q6.out q5
          have hj := PH.le
          obtain ⟨g7, cap7, rfl, m7⟩ := PH.ou
          obtain ⟨l7, hl7⟩ : ∃ l, cu = l := ⟨_, rfl⟩
          have HL7 := Seg.hid hl7
          rw [hl7] at m7 hcu ⊢
          have M7 := Seg.hid m7
          have s7 := m7.size
          obtain ⟨e0, e1, e2, e3, e4, e5⟩ := six_of m7.var
          clear PH m7 hl7
          by_cases hjl : j < r.heads.length
          · obtain ⟨gh, oh, rfl, hgh, hch, hcl2, _⟩ := HHc.out.resolve_left (by omega)
            have HX : Hid (∀ wk g cap l, Mid wo wk w0.heap.size g2 (.cells #[.int .i64 r.time, .bool false, .string r.key, .bool false, .string r.val, .slice (some ⟨gh, oh, none⟩) r.heads.length ch] 75 (0, 0)) l g cap → wk.cell? ⟨gh, oh + j * 2, none⟩ = some (.string (r.heads.getD j default).key) ∧ wk.cell? ⟨gh, oh + j * 2 + 1, none⟩ = some (.string (r.heads.getD j default).val)) := fun wk g cap l M => Heads.cell0 (heads_mid M HP.out.bl hg2 hb0 hgh hcl2) j hjl
            obtain ⟨y1, y2⟩ := okH_parts (okH_at Q6.out hjl)
            obtain ⟨hk, hhk⟩ : ∃ h, r.heads.getD j default = h := ⟨_, rfl⟩
            have HHK := Seg.hid hhk
            rw [hhk] at HX y1 y2
            obtain ⟨k1, k2⟩ := HX.out _ _ _ _ M7.out
            have j0 : (0 : Int) ≤ (j : Int) := by omega
            have j1 : (j : Int) < (r.heads.length : Int) := by omega
            clear hhk hcl2
            go_wp2_with fail
            refine (Put.spec_any (hk.key.size : Int) wr (by omega) (by omega)).mono ?_
            rintro e w8a ⟨g8a, cap8a, rfl, o8a, b8a⟩
            obtain ⟨x8, hx8⟩ : ∃ y : Int, (hk.key.size : Int) = y := ⟨_, rfl⟩
            have hp8 := put_le x8 (by omega)
            rw [hx8] at o8a ⊢
            have HX8 := Seg.hid hx8
            have O8a := Seg.hid o8a; have B8a := Seg.hid b8a
            have z8a := b8a.size
            try rw [hsz] at z8a
            clear o8a b8a hx8
            go_wp2_with (at_builtin; refine app rfl (.tmp 68) (.tmp 76) rfl w0.heap.size g7 cap7 l7 (put x8) ?zzs ?zzo ⟨g8a, 0, none⟩ cap8a ?zzx ?zzn ?zzm ?zzb ?zzba ?_; (case zzs => rfl); (case zzo => exact out_below M7.out.out B8a.out); (case zzx => rfl); (case zzn => exact fun j hj => out_cell (l := put x8) O8a.out j hj); (case zzm => exact Nums.put_pos x8); (case zzb => omega); (case zzba => omega); intro g8 cap8 w8 o8 gr8 at8; have M8 := Seg.hid (Mid.ext M7.out (num_ext B8a.out o8 gr8 at8)); have s8 := M8.out.size; clear o8 gr8 at8; clear e0 e1 e2 e3 e4 e5 k1 k2; obtain ⟨e0, e1, e2, e3, e4, e5⟩ := six_of M8.out.var; obtain ⟨k1, k2⟩ := HX.out _ _ _ _ M8.out)
            obtain ⟨l8, hl8⟩ : ∃ l, l7 ++ put x8 = l := ⟨_, rfl⟩
            have hl8e : l7.length + (put x8).length = l8.length := by rw [← hl8, List.length_append]
            have HL8 : Hid (l7 ++ put (hk.key.size : Int) = l8) := by rw [HX8.out]; exact hl8
            rw [hl8] at M8
            rw [hl8e]
            have hl8l : l8.length ≤ 40000 := by omega
            clear hl8 hl8e
            go_wp2_with fail
            refine (Put.spec_any (hk.val.size : Int) w8 (by omega) (by omega)).mono ?_
            rintro e w9a ⟨g9a, cap9a, rfl, o9a, b9a⟩
            obtain ⟨x9, hx9⟩ : ∃ y : Int, (hk.val.size : Int) = y := ⟨_, rfl⟩
            have hp9 := put_le x9 (by omega)
            rw [hx9] at o9a ⊢
            have HX9 := Seg.hid hx9
            have O9a := Seg.hid o9a; have B9a := Seg.hid b9a
            have z9a := b9a.size
            try rw [hsz] at z9a
            clear o9a b9a hx9
            go_wp2_with (at_builtin; refine app rfl (.tmp 78) (.tmp 86) rfl w0.heap.size g8 cap8 l8 (put x9) ?zzs ?zzo ⟨g9a, 0, none⟩ cap9a ?zzx ?zzn ?zzm ?zzb ?zzba ?_; (case zzs => rfl); (case zzo => exact out_below M8.out.out B9a.out); (case zzx => rfl); (case zzn => exact fun j hj => out_cell (l := put x9) O9a.out j hj); (case zzm => exact Nums.put_pos x9); (case zzb => omega); (case zzba => omega); intro g9 cap9 w9 o9 gr9 at9; have M9 := Seg.hid (Mid.ext M8.out (num_ext B9a.out o9 gr9 at9)); have s9 := M9.out.size; clear o9 gr9 at9; clear e0 e1 e2 e3 e4 e5 k1 k2; obtain ⟨e0, e1, e2, e3, e4, e5⟩ := six_of M9.out.var; obtain ⟨k1, k2⟩ := HX.out _ _ _ _ M9.out)
            obtain ⟨l9, hl9⟩ : ∃ l, l8 ++ put x9 = l := ⟨_, rfl⟩
            have hl9e : l8.length + (put x9).length = l9.length := by rw [← hl9, List.length_append]
            have HL9 : Hid (l8 ++ put (hk.val.size : Int) = l9) := by rw [HX9.out]; exact hl9
            rw [hl9] at M9
            rw [hl9e]
            have hl9l : l9.length ≤ 40020 := by omega
            clear hl9 hl9e
            go_wp2_with fail
            have hba9 : w0.heap.size ≤ w9.heap.size := by omega
            go_region_held3 (fun w' => w'.cell? ⟨wo.heap.size, 5, none⟩ = some (.slice (some ⟨gh, oh, none⟩) r.heads.length ch) ∧ w'.cell? ⟨gh, oh + j * 2, none⟩ = some (.string hk.key) ∧ w'.cell? ⟨gh, oh + j * 2 + 1, none⟩ = some (.string hk.val)) (first | go_keep | exact K11.out | exact K10.out | exact ⟨e5, k1, k2⟩)
              (first | (refine step_appS (by rfl) (.tmp 88) (.tmp 94) (by rfl) w0.heap.size g9 cap9 l9 hk.key ?zzs ?zzo ?zzx ?zzb ?zzba ?_; (case zzs => rfl); (case zzo => exact M9.out.out); (case zzx => rfl); (case zzb => omega); (case zzba => exact hba9); intro g10 cap10 w10 o10 gr10 at10; replace gr10 : w9.grownBy w10 (some g9) := ⟨gr10.os, gr10.tape, gr10.output, gr10.size, gr10.block⟩; replace at10 : g10 = g9 ∨ g10 = w9.heap.size := at10; have hba10 : w0.heap.size ≤ w10.heap.size := Nat.le_trans hba9 gr10.size; have M10 := Seg.hid (Mid.ext M9.out (PuT.Ext.more (World.grownBy.refl _ _) (.inl rfl) o10 gr10 at10 rfl)); have z10 := M10.out.size; have K10 := Seg.hid (show w10.cell? ⟨wo.heap.size, 5, none⟩ = some (.slice (some ⟨gh, oh, none⟩) r.heads.length ch) ∧ w10.cell? ⟨gh, oh + j * 2, none⟩ = some (.string hk.key) ∧ w10.cell? ⟨gh, oh + j * 2 + 1, none⟩ = some (.string hk.val) from ⟨(six_of M10.out.var).2.2.2.2.2, HX.out _ _ _ _ M10.out⟩); clear o10 gr10 at10) | (refine step_appS (by rfl) (.tmp 95) (.tmp 101) (by rfl) w0.heap.size g10 cap10 (l9 ++ txt hk.key) hk.val ?zzs ?zzo ?zzx ?zzb ?zzba ?_; (case zzs => rw [List.length_append, txt_len]; rfl); (case zzo => exact M10.out.out); (case zzx => rfl); (case zzb => rw [List.length_append, txt_len]; omega); (case zzba => exact hba10); intro g11 cap11 w11 o11 gr11 at11; replace gr11 : w10.grownBy w11 (some g10) := ⟨gr11.os, gr11.tape, gr11.output, gr11.size, gr11.block⟩; replace at11 : g11 = g10 ∨ g11 = w10.heap.size := at11; have M11 := Seg.hid (Mid.ext M10.out (PuT.Ext.more (World.grownBy.refl _ _) (.inl rfl) o11 gr11 at11 rfl)); have K11 := Seg.hid (show w11.cell? ⟨wo.heap.size, 5, none⟩ = some (.slice (some ⟨gh, oh, none⟩) r.heads.length ch) ∧ w11.cell? ⟨gh, oh + j * 2, none⟩ = some (.string hk.key) ∧ w11.cell? ⟨gh, oh + j * 2 + 1, none⟩ = some (.string hk.val) from ⟨(six_of M11.out.var).2.2.2.2.2, HX.out _ _ _ _ M11.out⟩); clear o11 gr11 at11))
            have HF2 : Hid (l9 ++ txt hk.key ++ txt hk.val = cu ++ hd hk) := by
              have a1 := HL8.out; have a2 := HL9.out
              show _ = _
              rw [HL7.out, hd, ← a2, ← a1]
              simp only [List.append_assoc]
            have N7 : Hid (∀ n, n = (cu ++ hd hk).length → AtH wo w11 w0.heap.size g2 (.cells #[.int .i64 r.time, .bool false, .string r.key, .bool false, .string r.val, .slice (some ⟨gh, oh, none⟩) r.heads.length ch] 75 (0, 0)) l6 r.heads (j + 1) (.slice (some ⟨g11, 0, none⟩) n cap11) (cu ++ hd hk)) := fun n hn => AtH.next HPH.out hjl HHK.out (HF2.out ▸ M11.out) hn
            go_wp2
            go_roundw
            case rel => exact ⟨j + 1, _, by go_num, N7.out _ (by rw [← HF2.out]; simp only [List.length_append, txt_len])⟩
            case measure => simp [intOf]; omega
          · obtain rfl : j = r.heads.length := by omega
            have HE : Hid (l7 = cur ++ rec1 ver tm r) := by
              have := HPH.out.eq
              rw [List.drop_length, hdsB, List.append_nil] at this
              show _ = _
              rw [← HL7.out, this]
              exact HF.out
            have N6 : Hid (AtB w0 wr ver t.recs (k + 1) r.time (.slice (some ⟨g7, 0, none⟩) l7.length cap7) (cur ++ rec1 ver tm r)) := AtB.next HP.out hlt HRk.out OK.out hg2 (HE.out ▸ M7.out) (by rw [HE.out])
            go_wp2
            go_roundw
            case rel => exact ⟨k + 1, r.time, _, by go_num, rfl, N6.out⟩
            case measure => simp [intOf]; omega
      · have ht2 : (ver == 2) = false := by simp [hv2]
        replace hv2 := Seg.hid hv2
        go_wp2_with fail
        refine (Put.spec_any (r.time - tm) (wr.alloc _) (by omega) (by omega)).mono ?_
        rintro e w3a ⟨g3a, cap3a, rfl, o3a, b3a⟩
        obtain ⟨x3, hx3⟩ : ∃ y : Int, (r.time - tm) = y := ⟨_, rfl⟩
        have hp3 := put_le x3 (by omega)
        rw [hx3] at o3a ⊢
        have HX3 := Seg.hid hx3
        have O3a := Seg.hid o3a; have B3a := Seg.hid b3a
        have z3a := b3a.size
        try rw [hsz] at z3a
        clear o3a b3a hx3
        go_wp2_with (at_builtin; refine app rfl (.tmp 26) (.tmp 31) rfl w0.heap.size g2 cap2 l2 (put x3) ?zzs ?zzo ⟨g3a, 0, none⟩ cap3a ?zzx ?zzn ?zzm ?zzb ?zzba ?_; (case zzs => rfl); (case zzo => exact out_below M2.out.out B3a.out); (case zzx => rfl); (case zzn => exact fun j hj => out_cell (l := put x3) O3a.out j hj); (case zzm => exact Nums.put_pos x3); (case zzb => omega); (case zzba => omega); intro g3 cap3 w3 o3 gr3 at3; have M3 := Seg.hid (Mid.ext M2.out (num_ext B3a.out o3 gr3 at3)); have s3 := M3.out.size; clear o3 gr3 at3; obtain ⟨e0, e1, e2, e3, e4, e5⟩ := six_of M3.out.var)
        obtain ⟨l3, hl3⟩ : ∃ l, l2 ++ put x3 = l := ⟨_, rfl⟩
        have hl3e : l2.length + (put x3).length = l3.length := by rw [← hl3, List.length_append]
        have HL3 : Hid (l2 ++ put (r.time - tm) = l3) := by rw [HX3.out]; exact hl3
        rw [hl3] at M3
        rw [hl3e]
        have hl3l : l3.length ≤ 38000 := by omega
        clear hl3 hl3e
        go_wp2_with fail
        refine (Put.spec_any (-1) w3 (by omega) (by omega)).mono ?_
        rintro e w4a ⟨g4a, cap4a, rfl, o4a, b4a⟩
        obtain ⟨x4, hx4⟩ : ∃ y : Int, (-1) = y := ⟨_, rfl⟩
        have hp4 := put_le x4 (by omega)
        rw [hx4] at o4a ⊢
        have HX4 := Seg.hid hx4
        have O4a := Seg.hid o4a; have B4a := Seg.hid b4a
        have z4a := b4a.size
        try rw [hsz] at z4a
        clear o4a b4a hx4
        go_wp2_with (at_builtin; refine app rfl (.tmp 41) (.tmp 42) rfl w0.heap.size g3 cap3 l3 (put x4) ?zzs ?zzo ⟨g4a, 0, none⟩ cap4a ?zzx ?zzn ?zzm ?zzb ?zzba ?_; (case zzs => rfl); (case zzo => exact out_below M3.out.out B4a.out); (case zzx => rfl); (case zzn => exact fun j hj => out_cell (l := put x4) O4a.out j hj); (case zzm => exact Nums.put_pos x4); (case zzb => omega); (case zzba => omega); intro g4 cap4 w4 o4 gr4 at4; have M4 := Seg.hid (Mid.ext M3.out (num_ext B4a.out o4 gr4 at4)); have s4 := M4.out.size; clear o4 gr4 at4; clear e0 e1 e2 e3 e4 e5; obtain ⟨e0, e1, e2, e3, e4, e5⟩ := six_of M4.out.var)
        obtain ⟨l4, hl4⟩ : ∃ l, l3 ++ put x4 = l := ⟨_, rfl⟩
        have hl4e : l3.length + (put x4).length = l4.length := by rw [← hl4, List.length_append]
        have HL4 : Hid (l3 ++ put (-1) = l4) := by rw [HX4.out]; exact hl4
        rw [hl4] at M4
        rw [hl4e]
        have hl4l : l4.length ≤ 38200 := by omega
        clear hl4 hl4e
        go_wp2_with fail
        refine (l2Text_any g4 cap4 w0.heap.size l4 r.val w4 (by omega) (by omega) M4.out.out (by omega)).mono ?_
        rintro e w5 hE
        have hd5 := txtIf_le true r.val (by omega)
        obtain ⟨l5, hl5⟩ : ∃ l, l4 ++ txtIf true r.val = l := ⟨_, rfl⟩
        have hl5l : l5.length ≤ 38400 := by rw [← hl5, List.length_append]; omega
        rw [hl5] at hE
        have HL5 := Seg.hid hl5
        obtain ⟨g5, cap5, rfl, m5⟩ := M4.out.step hE
        have M5 := Seg.hid m5
        have s5 := m5.size
        clear m5 hE hl5 e0 e1 e2 e3 e4 e5
        obtain ⟨e0, e1, e2, e3, e4, e5⟩ := six_of M5.out.var
        have HF : Hid (l5 = cur ++ rec1 ver tm r) := by
          have a1 := HL3.out; have a2 := HL4.out; have a3 := HL5.out
          show _ = _
          rw [HL2.out, rec1, hdsV, if_neg hv2.out, HK.out, HG.out, ← a3, ← a2, ← a1]
          simp [txtIf]
        have N6 : Hid (AtB w0 w5 ver t.recs (k + 1) r.time (.slice (some ⟨g5, 0, none⟩) l5.length cap5) (cur ++ rec1 ver tm r)) := AtB.next HP.out hlt HRk.out OK.out hg2 (HF.out ▸ M5.out) (by rw [HF.out])
        go_wp2
        go_roundw
        case rel => exact ⟨k + 1, r.time, _, by go_num, rfl, N6.out⟩
        case measure => simp [intOf]; omega
      · have ht2 : (ver == 2) = true := by simp [hv2]
        replace hv2 := Seg.hid hv2
        go_wp2_with fail
        refine (Put.spec_any (r.time - tm) (wr.alloc _) (by omega) (by omega)).mono ?_
        rintro e w3a ⟨g3a, cap3a, rfl, o3a, b3a⟩
        obtain ⟨x3, hx3⟩ : ∃ y : Int, (r.time - tm) = y := ⟨_, rfl⟩
        have hp3 := put_le x3 (by omega)
        rw [hx3] at o3a ⊢
        have HX3 := Seg.hid hx3
        have O3a := Seg.hid o3a; have B3a := Seg.hid b3a
        have z3a := b3a.size
        try rw [hsz] at z3a
        clear o3a b3a hx3
        go_wp2_with (at_builtin; refine app rfl (.tmp 26) (.tmp 31) rfl w0.heap.size g2 cap2 l2 (put x3) ?zzs ?zzo ⟨g3a, 0, none⟩ cap3a ?zzx ?zzn ?zzm ?zzb ?zzba ?_; (case zzs => rfl); (case zzo => exact out_below M2.out.out B3a.out); (case zzx => rfl); (case zzn => exact fun j hj => out_cell (l := put x3) O3a.out j hj); (case zzm => exact Nums.put_pos x3); (case zzb => omega); (case zzba => omega); intro g3 cap3 w3 o3 gr3 at3; have M3 := Seg.hid (Mid.ext M2.out (num_ext B3a.out o3 gr3 at3)); have s3 := M3.out.size; clear o3 gr3 at3; obtain ⟨e0, e1, e2, e3, e4, e5⟩ := six_of M3.out.var)
        obtain ⟨l3, hl3⟩ : ∃ l, l2 ++ put x3 = l := ⟨_, rfl⟩
        have hl3e : l2.length + (put x3).length = l3.length := by rw [← hl3, List.length_append]
        have HL3 : Hid (l2 ++ put (r.time - tm) = l3) := by rw [HX3.out]; exact hl3
        rw [hl3] at M3
        rw [hl3e]
        have hl3l : l3.length ≤ 38000 := by omega
        clear hl3 hl3e
        go_wp2_with fail
        refine (Put.spec_any (-1) w3 (by omega) (by omega)).mono ?_
        rintro e w4a ⟨g4a, cap4a, rfl, o4a, b4a⟩
        obtain ⟨x4, hx4⟩ : ∃ y : Int, (-1) = y := ⟨_, rfl⟩
        have hp4 := put_le x4 (by omega)
        rw [hx4] at o4a ⊢
        have HX4 := Seg.hid hx4
        have O4a := Seg.hid o4a; have B4a := Seg.hid b4a
        have z4a := b4a.size
        try rw [hsz] at z4a
        clear o4a b4a hx4
        go_wp2_with (at_builtin; refine app rfl (.tmp 41) (.tmp 42) rfl w0.heap.size g3 cap3 l3 (put x4) ?zzs ?zzo ⟨g4a, 0, none⟩ cap4a ?zzx ?zzn ?zzm ?zzb ?zzba ?_; (case zzs => rfl); (case zzo => exact out_below M3.out.out B4a.out); (case zzx => rfl); (case zzn => exact fun j hj => out_cell (l := put x4) O4a.out j hj); (case zzm => exact Nums.put_pos x4); (case zzb => omega); (case zzba => omega); intro g4 cap4 w4 o4 gr4 at4; have M4 := Seg.hid (Mid.ext M3.out (num_ext B4a.out o4 gr4 at4)); have s4 := M4.out.size; clear o4 gr4 at4; clear e0 e1 e2 e3 e4 e5; obtain ⟨e0, e1, e2, e3, e4, e5⟩ := six_of M4.out.var)
        obtain ⟨l4, hl4⟩ : ∃ l, l3 ++ put x4 = l := ⟨_, rfl⟩
        have hl4e : l3.length + (put x4).length = l4.length := by rw [← hl4, List.length_append]
        have HL4 : Hid (l3 ++ put (-1) = l4) := by rw [HX4.out]; exact hl4
        rw [hl4] at M4
        rw [hl4e]
        have hl4l : l4.length ≤ 38200 := by omega
        clear hl4 hl4e
        go_wp2_with fail
        refine (Put.spec_any (-1) w4 (by omega) (by omega)).mono ?_
        rintro e w5a ⟨g5a, cap5a, rfl, o5a, b5a⟩
        obtain ⟨x5, hx5⟩ : ∃ y : Int, (-1) = y := ⟨_, rfl⟩
        have hp5 := put_le x5 (by omega)
        rw [hx5] at o5a ⊢
        have HX5 := Seg.hid hx5
        have O5a := Seg.hid o5a; have B5a := Seg.hid b5a
        have z5a := b5a.size
        try rw [hsz] at z5a
        clear o5a b5a hx5
        go_wp2_with (at_builtin; refine app rfl (.tmp 46) (.tmp 47) rfl w0.heap.size g4 cap4 l4 (put x5) ?zzs ?zzo ⟨g5a, 0, none⟩ cap5a ?zzx ?zzn ?zzm ?zzb ?zzba ?_; (case zzs => rfl); (case zzo => exact out_below M4.out.out B5a.out); (case zzx => rfl); (case zzn => exact fun j hj => out_cell (l := put x5) O5a.out j hj); (case zzm => exact Nums.put_pos x5); (case zzb => omega); (case zzba => omega); intro g5 cap5 w5 o5 gr5 at5; have M5 := Seg.hid (Mid.ext M4.out (num_ext B5a.out o5 gr5 at5)); have s5 := M5.out.size; clear o5 gr5 at5; clear e0 e1 e2 e3 e4 e5; obtain ⟨e0, e1, e2, e3, e4, e5⟩ := six_of M5.out.var)
        obtain ⟨l5, hl5⟩ : ∃ l, l4 ++ put x5 = l := ⟨_, rfl⟩
        have hl5e : l4.length + (put x5).length = l5.length := by rw [← hl5, List.length_append]
        have HL5 : Hid (l4 ++ put (-1) = l5) := by rw [HX5.out]; exact hl5
        rw [hl5] at M5
        rw [hl5e]
        have hl5l : l5.length ≤ 38400 := by omega
        clear hl5 hl5e
        go_wp2_with fail
        refine (Put.spec_any (r.heads.length : Int) w5 (by omega) (by omega)).mono ?_
        rintro e w6a ⟨g6a, cap6a, rfl, o6a, b6a⟩
        obtain ⟨x6, hx6⟩ : ∃ y : Int, (r.heads.length : Int) = y := ⟨_, rfl⟩
        have hp6 := put_le x6 (by omega)
        rw [hx6] at o6a ⊢
        have HX6 := Seg.hid hx6
        have O6a := Seg.hid o6a; have B6a := Seg.hid b6a
        have z6a := b6a.size
        try rw [hsz] at z6a
        clear o6a b6a hx6
        go_wp2_with (at_builtin; refine app rfl (.tmp 55) (.tmp 59) rfl w0.heap.size g5 cap5 l5 (put x6) ?zzs ?zzo ⟨g6a, 0, none⟩ cap6a ?zzx ?zzn ?zzm ?zzb ?zzba ?_; (case zzs => rfl); (case zzo => exact out_below M5.out.out B6a.out); (case zzx => rfl); (case zzn => exact fun j hj => out_cell (l := put x6) O6a.out j hj); (case zzm => exact Nums.put_pos x6); (case zzb => omega); (case zzba => omega); intro g6 cap6 w6 o6 gr6 at6; have M6 := Seg.hid (Mid.ext M5.out (num_ext B6a.out o6 gr6 at6)); have s6 := M6.out.size; clear o6 gr6 at6; clear e0 e1 e2 e3 e4 e5; obtain ⟨e0, e1, e2, e3, e4, e5⟩ := six_of M6.out.var)
        obtain ⟨l6, hl6⟩ : ∃ l, l5 ++ put x6 = l := ⟨_, rfl⟩
        have hl6e : l5.length + (put x6).length = l6.length := by rw [← hl6, List.length_append]
        have HL6 : Hid (l5 ++ put (r.heads.length : Int) = l6) := by rw [HX6.out]; exact hl6
        rw [hl6] at M6
        rw [hl6e]
        have hl6l : l6.length ≤ 38500 := by omega
        clear hl6 hl6e
        obtain ⟨wo, rfl⟩ : ∃ x, x = wr := ⟨_, rfl⟩
        have H6 : Hid (AtH wo w6 w0.heap.size g2 (.cells #[.int .i64 r.time, .bool false, .string r.key, .bool true, .string r.val, .slice Ah r.heads.length ch] 75 (0, 0)) l6 r.heads 0 (.slice (some ⟨g6, 0, none⟩) l6.length cap6) l6) := ⟨Nat.zero_le _, ⟨g6, cap6, rfl, M6.out⟩, rfl⟩
        have HF : Hid (l6 ++ hdsB r.heads = cur ++ rec1 ver tm r) := by
          have a1 := HL3.out; have a2 := HL4.out; have a3 := HL5.out; have a4 := HL6.out
          show _ = _
          rw [HL2.out, rec1, hdsV, if_pos hv2.out, hds, HK.out, HG.out, ← a4, ← a3, ← a2, ← a1]
          simp [txtIf]
        clear e0 e1 e2 e3 e4 e5 c0 c1 c2 c3 c4 c5 f6
        go_wp2_with fail
        go_loopw [5, 9] (fun v i wk => ∃ (j : Nat) (cu : List Int), i = .int .i64 j ∧ AtH wo wk w0.heap.size g2 (.cells #[.int .i64 r.time, .bool false, .string r.key, .bool true, .string r.val, .slice Ah r.heads.length ch] 75 (0, 0)) l6 r.heads j v cu) (fun _ i _ => r.heads.length - (intOf i).toNat)
        case atStart => exact ⟨0, l6, rfl, H6.out⟩
        case round =>
          clear H6
          obtain ⟨j, cu, rfl, PH⟩ := hrel
          have HPH := Seg.hid PH
          have hcu := PH.len Q6.out q5
          have hj := PH.le
          obtain ⟨g7, cap7, rfl, m7⟩ := PH.ou
          obtain ⟨l7, hl7⟩ : ∃ l, cu = l := ⟨_, rfl⟩
          have HL7 := Seg.hid hl7
          rw [hl7] at m7 hcu ⊢
          have M7 := Seg.hid m7
          have s7 := m7.size
          obtain ⟨e0, e1, e2, e3, e4, e5⟩ := six_of m7.var
          clear PH m7 hl7
          by_cases hjl : j < r.heads.length
          · obtain ⟨gh, oh, rfl, hgh, hch, hcl2, _⟩ := HHc.out.resolve_left (by omega)
            have HX : Hid (∀ wk g cap l, Mid wo wk w0.heap.size g2 (.cells #[.int .i64 r.time, .bool false, .string r.key, .bool true, .string r.val, .slice (some ⟨gh, oh, none⟩) r.heads.length ch] 75 (0, 0)) l g cap → wk.cell? ⟨gh, oh + j * 2, none⟩ = some (.string (r.heads.getD j default).key) ∧ wk.cell? ⟨gh, oh + j * 2 + 1, none⟩ = some (.string (r.heads.getD j default).val)) := fun wk g cap l M => Heads.cell0 (heads_mid M HP.out.bl hg2 hb0 hgh hcl2) j hjl
            obtain ⟨y1, y2⟩ := okH_parts (okH_at Q6.out hjl)
            obtain ⟨hk, hhk⟩ : ∃ h, r.heads.getD j default = h := ⟨_, rfl⟩
            have HHK := Seg.hid hhk
            rw [hhk] at HX y1 y2
            obtain ⟨k1, k2⟩ := HX.out _ _ _ _ M7.out
            have j0 : (0 : Int) ≤ (j : Int) := by omega
            have j1 : (j : Int) < (r.heads.length : Int) := by omega
            clear hhk hcl2
            go_wp2_with fail
            refine (Put.spec_any (hk.key.size : Int) wr (by omega) (by omega)).mono ?_
            rintro e w8a ⟨g8a, cap8a, rfl, o8a, b8a⟩
            obtain ⟨x8, hx8⟩ : ∃ y : Int, (hk.key.size : Int) = y := ⟨_, rfl⟩
            have hp8 := put_le x8 (by omega)
            rw [hx8] at o8a ⊢
            have HX8 := Seg.hid hx8
            have O8a := Seg.hid o8a; have B8a := Seg.hid b8a
            have z8a := b8a.size
            try rw [hsz] at z8a
            clear o8a b8a hx8
            go_wp2_with (at_builtin; refine app rfl (.tmp 68) (.tmp 76) rfl w0.heap.size g7 cap7 l7 (put x8) ?zzs ?zzo ⟨g8a, 0, none⟩ cap8a ?zzx ?zzn ?zzm ?zzb ?zzba ?_; (case zzs => rfl); (case zzo => exact out_below M7.out.out B8a.out); (case zzx => rfl); (case zzn => exact fun j hj => out_cell (l := put x8) O8a.out j hj); (case zzm => exact Nums.put_pos x8); (case zzb => omega); (case zzba => omega); intro g8 cap8 w8 o8 gr8 at8; have M8 := Seg.hid (Mid.ext M7.out (num_ext B8a.out o8 gr8 at8)); have s8 := M8.out.size; clear o8 gr8 at8; clear e0 e1 e2 e3 e4 e5 k1 k2; obtain ⟨e0, e1, e2, e3, e4, e5⟩ := six_of M8.out.var; obtain ⟨k1, k2⟩ := HX.out _ _ _ _ M8.out)
            obtain ⟨l8, hl8⟩ : ∃ l, l7 ++ put x8 = l := ⟨_, rfl⟩
            have hl8e : l7.length + (put x8).length = l8.length := by rw [← hl8, List.length_append]
            have HL8 : Hid (l7 ++ put (hk.key.size : Int) = l8) := by rw [HX8.out]; exact hl8
            rw [hl8] at M8
            rw [hl8e]
            have hl8l : l8.length ≤ 40000 := by omega
            clear hl8 hl8e
            go_wp2_with fail
            refine (Put.spec_any (hk.val.size : Int) w8 (by omega) (by omega)).mono ?_
            rintro e w9a ⟨g9a, cap9a, rfl, o9a, b9a⟩
            obtain ⟨x9, hx9⟩ : ∃ y : Int, (hk.val.size : Int) = y := ⟨_, rfl⟩
            have hp9 := put_le x9 (by omega)
            rw [hx9] at o9a ⊢
            have HX9 := Seg.hid hx9
            have O9a := Seg.hid o9a; have B9a := Seg.hid b9a
            have z9a := b9a.size
            try rw [hsz] at z9a
            clear o9a b9a hx9
            go_wp2_with (at_builtin; refine app rfl (.tmp 78) (.tmp 86) rfl w0.heap.size g8 cap8 l8 (put x9) ?zzs ?zzo ⟨g9a, 0, none⟩ cap9a ?zzx ?zzn ?zzm ?zzb ?zzba ?_; (case zzs => rfl); (case zzo => exact out_below M8.out.out B9a.out); (case zzx => rfl); (case zzn => exact fun j hj => out_cell (l := put x9) O9a.out j hj); (case zzm => exact Nums.put_pos x9); (case zzb => omega); (case zzba => omega); intro g9 cap9 w9 o9 gr9 at9; have M9 := Seg.hid (Mid.ext M8.out (num_ext B9a.out o9 gr9 at9)); have s9 := M9.out.size; clear o9 gr9 at9; clear e0 e1 e2 e3 e4 e5 k1 k2; obtain ⟨e0, e1, e2, e3, e4, e5⟩ := six_of M9.out.var; obtain ⟨k1, k2⟩ := HX.out _ _ _ _ M9.out)
            obtain ⟨l9, hl9⟩ : ∃ l, l8 ++ put x9 = l := ⟨_, rfl⟩
            have hl9e : l8.length + (put x9).length = l9.length := by rw [← hl9, List.length_append]
            have HL9 : Hid (l8 ++ put (hk.val.size : Int) = l9) := by rw [HX9.out]; exact hl9
            rw [hl9] at M9
            rw [hl9e]
            have hl9l : l9.length ≤ 40020 := by omega
            clear hl9 hl9e
            go_wp2_with fail
            have hba9 : w0.heap.size ≤ w9.heap.size := by omega
            go_region_held3 (fun w' => w'.cell? ⟨wo.heap.size, 5, none⟩ = some (.slice (some ⟨gh, oh, none⟩) r.heads.length ch) ∧ w'.cell? ⟨gh, oh + j * 2, none⟩ = some (.string hk.key) ∧ w'.cell? ⟨gh, oh + j * 2 + 1, none⟩ = some (.string hk.val)) (first | go_keep | exact K11.out | exact K10.out | exact ⟨e5, k1, k2⟩)
              (first | (refine step_appS (by rfl) (.tmp 88) (.tmp 94) (by rfl) w0.heap.size g9 cap9 l9 hk.key ?zzs ?zzo ?zzx ?zzb ?zzba ?_; (case zzs => rfl); (case zzo => exact M9.out.out); (case zzx => rfl); (case zzb => omega); (case zzba => exact hba9); intro g10 cap10 w10 o10 gr10 at10; replace gr10 : w9.grownBy w10 (some g9) := ⟨gr10.os, gr10.tape, gr10.output, gr10.size, gr10.block⟩; replace at10 : g10 = g9 ∨ g10 = w9.heap.size := at10; have hba10 : w0.heap.size ≤ w10.heap.size := Nat.le_trans hba9 gr10.size; have M10 := Seg.hid (Mid.ext M9.out (PuT.Ext.more (World.grownBy.refl _ _) (.inl rfl) o10 gr10 at10 rfl)); have z10 := M10.out.size; have K10 := Seg.hid (show w10.cell? ⟨wo.heap.size, 5, none⟩ = some (.slice (some ⟨gh, oh, none⟩) r.heads.length ch) ∧ w10.cell? ⟨gh, oh + j * 2, none⟩ = some (.string hk.key) ∧ w10.cell? ⟨gh, oh + j * 2 + 1, none⟩ = some (.string hk.val) from ⟨(six_of M10.out.var).2.2.2.2.2, HX.out _ _ _ _ M10.out⟩); clear o10 gr10 at10) | (refine step_appS (by rfl) (.tmp 95) (.tmp 101) (by rfl) w0.heap.size g10 cap10 (l9 ++ txt hk.key) hk.val ?zzs ?zzo ?zzx ?zzb ?zzba ?_; (case zzs => rw [List.length_append, txt_len]; rfl); (case zzo => exact M10.out.out); (case zzx => rfl); (case zzb => rw [List.length_append, txt_len]; omega); (case zzba => exact hba10); intro g11 cap11 w11 o11 gr11 at11; replace gr11 : w10.grownBy w11 (some g10) := ⟨gr11.os, gr11.tape, gr11.output, gr11.size, gr11.block⟩; replace at11 : g11 = g10 ∨ g11 = w10.heap.size := at11; have M11 := Seg.hid (Mid.ext M10.out (PuT.Ext.more (World.grownBy.refl _ _) (.inl rfl) o11 gr11 at11 rfl)); have K11 := Seg.hid (show w11.cell? ⟨wo.heap.size, 5, none⟩ = some (.slice (some ⟨gh, oh, none⟩) r.heads.length ch) ∧ w11.cell? ⟨gh, oh + j * 2, none⟩ = some (.string hk.key) ∧ w11.cell? ⟨gh, oh + j * 2 + 1, none⟩ = some (.string hk.val) from ⟨(six_of M11.out.var).2.2.2.2.2, HX.out _ _ _ _ M11.out⟩); clear o11 gr11 at11))
            have HF2 : Hid (l9 ++ txt hk.key ++ txt hk.val = cu ++ hd hk) := by
              have a1 := HL8.out; have a2 := HL9.out
              show _ = _
              rw [HL7.out, hd, ← a2, ← a1]
              simp only [List.append_assoc]
            have N7 : Hid (∀ n, n = (cu ++ hd hk).length → AtH wo w11 w0.heap.size g2 (.cells #[.int .i64 r.time, .bool false, .string r.key, .bool true, .string r.val, .slice (some ⟨gh, oh, none⟩) r.heads.length ch] 75 (0, 0)) l6 r.heads (j + 1) (.slice (some ⟨g11, 0, none⟩) n cap11) (cu ++ hd hk)) := fun n hn => AtH.next HPH.out hjl HHK.out (HF2.out ▸ M11.out) hn
            go_wp2
            go_roundw
            case rel => exact ⟨j + 1, _, by go_num, N7.out _ (by rw [← HF2.out]; simp only [List.length_append, txt_len])⟩
            case measure => simp [intOf]; omega
          · obtain rfl : j = r.heads.length := by omega
            have HE : Hid (l7 = cur ++ rec1 ver tm r) := by
              have := HPH.out.eq
              rw [List.drop_length, hdsB, List.append_nil] at this
              show _ = _
              rw [← HL7.out, this]
              exact HF.out
            have N6 : Hid (AtB w0 wr ver t.recs (k + 1) r.time (.slice (some ⟨g7, 0, none⟩) l7.length cap7) (cur ++ rec1 ver tm r)) := AtB.next HP.out hlt HRk.out OK.out hg2 (HE.out ▸ M7.out) (by rw [HE.out])
            go_wp2
            go_roundw
            case rel => exact ⟨k + 1, r.time, _, by go_num, rfl, N6.out⟩
            case measure => simp [intOf]; omega
      · have ht2 : (ver == 2) = false := by simp [hv2]
        replace hv2 := Seg.hid hv2
        go_wp2_with fail
        refine (Put.spec_any (r.time - tm) (wr.alloc _) (by omega) (by omega)).mono ?_
        rintro e w3a ⟨g3a, cap3a, rfl, o3a, b3a⟩
        obtain ⟨x3, hx3⟩ : ∃ y : Int, (r.time - tm) = y := ⟨_, rfl⟩
        have hp3 := put_le x3 (by omega)
        rw [hx3] at o3a ⊢
        have HX3 := Seg.hid hx3
        have O3a := Seg.hid o3a; have B3a := Seg.hid b3a
        have z3a := b3a.size
        try rw [hsz] at z3a
        clear o3a b3a hx3
        go_wp2_with (at_builtin; refine app rfl (.tmp 26) (.tmp 31) rfl w0.heap.size g2 cap2 l2 (put x3) ?zzs ?zzo ⟨g3a, 0, none⟩ cap3a ?zzx ?zzn ?zzm ?zzb ?zzba ?_; (case zzs => rfl); (case zzo => exact out_below M2.out.out B3a.out); (case zzx => rfl); (case zzn => exact fun j hj => out_cell (l := put x3) O3a.out j hj); (case zzm => exact Nums.put_pos x3); (case zzb => omega); (case zzba => omega); intro g3 cap3 w3 o3 gr3 at3; have M3 := Seg.hid (Mid.ext M2.out (num_ext B3a.out o3 gr3 at3)); have s3 := M3.out.size; clear o3 gr3 at3; obtain ⟨e0, e1, e2, e3, e4, e5⟩ := six_of M3.out.var)
        obtain ⟨l3, hl3⟩ : ∃ l, l2 ++ put x3 = l := ⟨_, rfl⟩
        have hl3e : l2.length + (put x3).length = l3.length := by rw [← hl3, List.length_append]
        have HL3 : Hid (l2 ++ put (r.time - tm) = l3) := by rw [HX3.out]; exact hl3
        rw [hl3] at M3
        rw [hl3e]
        have hl3l : l3.length ≤ 38000 := by omega
        clear hl3 hl3e
        go_wp2_with fail
        refine (Put.spec_any (-1) w3 (by omega) (by omega)).mono ?_
        rintro e w4a ⟨g4a, cap4a, rfl, o4a, b4a⟩
        obtain ⟨x4, hx4⟩ : ∃ y : Int, (-1) = y := ⟨_, rfl⟩
        have hp4 := put_le x4 (by omega)
        rw [hx4] at o4a ⊢
        have HX4 := Seg.hid hx4
        have O4a := Seg.hid o4a; have B4a := Seg.hid b4a
        have z4a := b4a.size
        try rw [hsz] at z4a
        clear o4a b4a hx4
        go_wp2_with (at_builtin; refine app rfl (.tmp 41) (.tmp 42) rfl w0.heap.size g3 cap3 l3 (put x4) ?zzs ?zzo ⟨g4a, 0, none⟩ cap4a ?zzx ?zzn ?zzm ?zzb ?zzba ?_; (case zzs => rfl); (case zzo => exact out_below M3.out.out B4a.out); (case zzx => rfl); (case zzn => exact fun j hj => out_cell (l := put x4) O4a.out j hj); (case zzm => exact Nums.put_pos x4); (case zzb => omega); (case zzba => omega); intro g4 cap4 w4 o4 gr4 at4; have M4 := Seg.hid (Mid.ext M3.out (num_ext B4a.out o4 gr4 at4)); have s4 := M4.out.size; clear o4 gr4 at4; clear e0 e1 e2 e3 e4 e5; obtain ⟨e0, e1, e2, e3, e4, e5⟩ := six_of M4.out.var)
        obtain ⟨l4, hl4⟩ : ∃ l, l3 ++ put x4 = l := ⟨_, rfl⟩
        have hl4e : l3.length + (put x4).length = l4.length := by rw [← hl4, List.length_append]
        have HL4 : Hid (l3 ++ put (-1) = l4) := by rw [HX4.out]; exact hl4
        rw [hl4] at M4
        rw [hl4e]
        have hl4l : l4.length ≤ 38200 := by omega
        clear hl4 hl4e
        go_wp2_with fail
        refine (Put.spec_any (-1) w4 (by omega) (by omega)).mono ?_
        rintro e w5a ⟨g5a, cap5a, rfl, o5a, b5a⟩
        obtain ⟨x5, hx5⟩ : ∃ y : Int, (-1) = y := ⟨_, rfl⟩
        have hp5 := put_le x5 (by omega)
        rw [hx5] at o5a ⊢
        have HX5 := Seg.hid hx5
        have O5a := Seg.hid o5a; have B5a := Seg.hid b5a
        have z5a := b5a.size
        try rw [hsz] at z5a
        clear o5a b5a hx5
        go_wp2_with (at_builtin; refine app rfl (.tmp 46) (.tmp 47) rfl w0.heap.size g4 cap4 l4 (put x5) ?zzs ?zzo ⟨g5a, 0, none⟩ cap5a ?zzx ?zzn ?zzm ?zzb ?zzba ?_; (case zzs => rfl); (case zzo => exact out_below M4.out.out B5a.out); (case zzx => rfl); (case zzn => exact fun j hj => out_cell (l := put x5) O5a.out j hj); (case zzm => exact Nums.put_pos x5); (case zzb => omega); (case zzba => omega); intro g5 cap5 w5 o5 gr5 at5; have M5 := Seg.hid (Mid.ext M4.out (num_ext B5a.out o5 gr5 at5)); have s5 := M5.out.size; clear o5 gr5 at5; clear e0 e1 e2 e3 e4 e5; obtain ⟨e0, e1, e2, e3, e4, e5⟩ := six_of M5.out.var)
        obtain ⟨l5, hl5⟩ : ∃ l, l4 ++ put x5 = l := ⟨_, rfl⟩
        have hl5e : l4.length + (put x5).length = l5.length := by rw [← hl5, List.length_append]
        have HL5 : Hid (l4 ++ put (-1) = l5) := by rw [HX5.out]; exact hl5
        rw [hl5] at M5
        rw [hl5e]
        have hl5l : l5.length ≤ 38400 := by omega
        clear hl5 hl5e
        have HF : Hid (l5 = cur ++ rec1 ver tm r) := by
          have a1 := HL3.out; have a2 := HL4.out; have a3 := HL5.out
          show _ = _
          rw [HL2.out, rec1, hdsV, if_neg hv2.out, HK.out, HG.out, ← a3, ← a2, ← a1]
          simp [txtIf]
        have N6 : Hid (AtB w0 w5 ver t.recs (k + 1) r.time (.slice (some ⟨g5, 0, none⟩) l5.length cap5) (cur ++ rec1 ver tm r)) := AtB.next HP.out hlt HRk.out OK.out hg2 (HF.out ▸ M5.out) (by rw [HF.out])
        go_wp2
        go_roundw
        case rel => exact ⟨k + 1, r.time, _, by go_num, rfl, N6.out⟩
        case measure => simp [intOf]; omega
      · have ht2 : (ver == 2) = true := by simp [hv2]
        replace hv2 := Seg.hid hv2
        go_wp2_with fail
        refine (Put.spec_any (r.time - tm) (wr.alloc _) (by omega) (by omega)).mono ?_
        rintro e w3a ⟨g3a, cap3a, rfl, o3a, b3a⟩
        obtain ⟨x3, hx3⟩ : ∃ y : Int, (r.time - tm) = y := ⟨_, rfl⟩
        have hp3 := put_le x3 (by omega)
        rw [hx3] at o3a ⊢
        have HX3 := Seg.hid hx3
        have O3a := Seg.hid o3a; have B3a := Seg.hid b3a
        have z3a := b3a.size
        try rw [hsz] at z3a
        clear o3a b3a hx3
        go_wp2_with (at_builtin; refine app rfl (.tmp 26) (.tmp 31) rfl w0.heap.size g2 cap2 l2 (put x3) ?zzs ?zzo ⟨g3a, 0, none⟩ cap3a ?zzx ?zzn ?zzm ?zzb ?zzba ?_; (case zzs => rfl); (case zzo => exact out_below M2.out.out B3a.out); (case zzx => rfl); (case zzn => exact fun j hj => out_cell (l := put x3) O3a.out j hj); (case zzm => exact Nums.put_pos x3); (case zzb => omega); (case zzba => omega); intro g3 cap3 w3 o3 gr3 at3; have M3 := Seg.hid (Mid.ext M2.out (num_ext B3a.out o3 gr3 at3)); have s3 := M3.out.size; clear o3 gr3 at3; obtain ⟨e0, e1, e2, e3, e4, e5⟩ := six_of M3.out.var)
        obtain ⟨l3, hl3⟩ : ∃ l, l2 ++ put x3 = l := ⟨_, rfl⟩
        have hl3e : l2.length + (put x3).length = l3.length := by rw [← hl3, List.length_append]
        have HL3 : Hid (l2 ++ put (r.time - tm) = l3) := by rw [HX3.out]; exact hl3
        rw [hl3] at M3
        rw [hl3e]
        have hl3l : l3.length ≤ 38000 := by omega
        clear hl3 hl3e
        go_wp2_with fail
        refine (l2Text_any g3 cap3 w0.heap.size l3 r.key w3 (by omega) (by omega) M3.out.out (by omega)).mono ?_
        rintro e w4 hE
        have hd4 := txtIf_le true r.key (by omega)
        obtain ⟨l4, hl4⟩ : ∃ l, l3 ++ txtIf true r.key = l := ⟨_, rfl⟩
        have hl4l : l4.length ≤ 38200 := by rw [← hl4, List.length_append]; omega
        rw [hl4] at hE
        have HL4 := Seg.hid hl4
        obtain ⟨g4, cap4, rfl, m4⟩ := M3.out.step hE
        have M4 := Seg.hid m4
        have s4 := m4.size
        clear m4 hE hl4 e0 e1 e2 e3 e4 e5
        obtain ⟨e0, e1, e2, e3, e4, e5⟩ := six_of M4.out.var
        go_wp2_with fail
        refine (l2Text_any g4 cap4 w0.heap.size l4 r.val w4 (by omega) (by omega) M4.out.out (by omega)).mono ?_
        rintro e w5 hE
        have hd5 := txtIf_le true r.val (by omega)
        obtain ⟨l5, hl5⟩ : ∃ l, l4 ++ txtIf true r.val = l := ⟨_, rfl⟩
        have hl5l : l5.length ≤ 38400 := by rw [← hl5, List.length_append]; omega
        rw [hl5] at hE
        have HL5 := Seg.hid hl5
        obtain ⟨g5, cap5, rfl, m5⟩ := M4.out.step hE
        have M5 := Seg.hid m5
        have s5 := m5.size
        clear m5 hE hl5 e0 e1 e2 e3 e4 e5
        obtain ⟨e0, e1, e2, e3, e4, e5⟩ := six_of M5.out.var
        go_wp2_with fail
        refine (Put.spec_any (r.heads.length : Int) w5 (by omega) (by omega)).mono ?_
        rintro e w6a ⟨g6a, cap6a, rfl, o6a, b6a⟩
        obtain ⟨x6, hx6⟩ : ∃ y : Int, (r.heads.length : Int) = y := ⟨_, rfl⟩
        have hp6 := put_le x6 (by omega)
        rw [hx6] at o6a ⊢
        have HX6 := Seg.hid hx6
        have O6a := Seg.hid o6a; have B6a := Seg.hid b6a
        have z6a := b6a.size
        try rw [hsz] at z6a
        clear o6a b6a hx6
        go_wp2_with (at_builtin; refine app rfl (.tmp 55) (.tmp 59) rfl w0.heap.size g5 cap5 l5 (put x6) ?zzs ?zzo ⟨g6a, 0, none⟩ cap6a ?zzx ?zzn ?zzm ?zzb ?zzba ?_; (case zzs => rfl); (case zzo => exact out_below M5.out.out B6a.out); (case zzx => rfl); (case zzn => exact fun j hj => out_cell (l := put x6) O6a.out j hj); (case zzm => exact Nums.put_pos x6); (case zzb => omega); (case zzba => omega); intro g6 cap6 w6 o6 gr6 at6; have M6 := Seg.hid (Mid.ext M5.out (num_ext B6a.out o6 gr6 at6)); have s6 := M6.out.size; clear o6 gr6 at6; clear e0 e1 e2 e3 e4 e5; obtain ⟨e0, e1, e2, e3, e4, e5⟩ := six_of M6.out.var)
        obtain ⟨l6, hl6⟩ : ∃ l, l5 ++ put x6 = l := ⟨_, rfl⟩
        have hl6e : l5.length + (put x6).length = l6.length := by rw [← hl6, List.length_append]
        have HL6 : Hid (l5 ++ put (r.heads.length : Int) = l6) := by rw [HX6.out]; exact hl6
        rw [hl6] at M6
        rw [hl6e]
        have hl6l : l6.length ≤ 38500 := by omega
        clear hl6 hl6e
        obtain ⟨wo, rfl⟩ : ∃ x, x = wr := ⟨_, rfl⟩
        have H6 : Hid (AtH wo w6 w0.heap.size g2 (.cells #[.int .i64 r.time, .bool true, .string r.key, .bool false, .string r.val, .slice Ah r.heads.length ch] 75 (0, 0)) l6 r.heads 0 (.slice (some ⟨g6, 0, none⟩) l6.length cap6) l6) := ⟨Nat.zero_le _, ⟨g6, cap6, rfl, M6.out⟩, rfl⟩
        have HF : Hid (l6 ++ hdsB r.heads = cur ++ rec1 ver tm r) := by
          have a1 := HL3.out; have a2 := HL4.out; have a3 := HL5.out; have a4 := HL6.out
          show _ = _
          rw [HL2.out, rec1, hdsV, if_pos hv2.out, hds, HK.out, HG.out, ← a4, ← a3, ← a2, ← a1]
          simp [txtIf]
        clear e0 e1 e2 e3 e4 e5 c0 c1 c2 c3 c4 c5 f6
        go_wp2_with fail
        go_loopw [5, 9] (fun v i wk => ∃ (j : Nat) (cu : List Int), i = .int .i64 j ∧ AtH wo wk w0.heap.size g2 (.cells #[.int .i64 r.time, .bool true, .string r.key, .bool false, .string r.val, .slice Ah r.heads.length ch] 75 (0, 0)) l6 r.heads j v cu) (fun _ i _ => r.heads.length - (intOf i).toNat)
        case atStart => exact ⟨0, l6, rfl, H6.out⟩
        case round =>
          clear H6
          obtain ⟨j, cu, rfl, PH⟩ := hrel
          have HPH := Seg.hid PH
          have hcu := PH.len Q6.out q5
          have hj := PH.le
          obtain ⟨g7, cap7, rfl, m7⟩ := PH.ou
          obtain ⟨l7, hl7⟩ : ∃ l, cu = l := ⟨_, rfl⟩
          have HL7 := Seg.hid hl7
          rw [hl7] at m7 hcu ⊢
          have M7 := Seg.hid m7
          have s7 := m7.size
          obtain ⟨e0, e1, e2, e3, e4, e5⟩ := six_of m7.var
          clear PH m7 hl7
          by_cases hjl : j < r.heads.length
          · obtain ⟨gh, oh, rfl, hgh, hch, hcl2, _⟩ := HHc.out.resolve_left (by omega)
            have HX : Hid (∀ wk g cap l, Mid wo wk w0.heap.size g2 (.cells #[.int .i64 r.time, .bool true, .string r.key, .bool false, .string r.val, .slice (some ⟨gh, oh, none⟩) r.heads.length ch] 75 (0, 0)) l g cap → wk.cell? ⟨gh, oh + j * 2, none⟩ = some (.string (r.heads.getD j default).key) ∧ wk.cell? ⟨gh, oh + j * 2 + 1, none⟩ = some (.string (r.heads.getD j default).val)) := fun wk g cap l M => Heads.cell0 (heads_mid M HP.out.bl hg2 hb0 hgh hcl2) j hjl
            obtain ⟨y1, y2⟩ := okH_parts (okH_at Q6.out hjl)
            obtain ⟨hk, hhk⟩ : ∃ h, r.heads.getD j default = h := ⟨_, rfl⟩
            have HHK := Seg.hid hhk
            rw [hhk] at HX y1 y2
            obtain ⟨k1, k2⟩ := HX.out _ _ _ _ M7.out
            have j0 : (0 : Int) ≤ (j : Int) := by omega
            have j1 : (j : Int) < (r.heads.length : Int) := by omega
            clear hhk hcl2
            go_wp2_with fail
            refine (Put.spec_any (hk.key.size : Int) wr (by omega) (by omega)).mono ?_
            rintro e w8a ⟨g8a, cap8a, rfl, o8a, b8a⟩
            obtain ⟨x8, hx8⟩ : ∃ y : Int, (hk.key.size : Int) = y := ⟨_, rfl⟩
            have hp8 := put_le x8 (by omega)
            rw [hx8] at o8a ⊢
            have HX8 := Seg.hid hx8
            have O8a := Seg.hid o8a; have B8a := Seg.hid b8a
            have z8a := b8a.size
            try rw [hsz] at z8a
            clear o8a b8a hx8
            go_wp2_with (at_builtin; refine app rfl (.tmp 68) (.tmp 76) rfl w0.heap.size g7 cap7 l7 (put x8) ?zzs ?zzo ⟨g8a, 0, none⟩ cap8a ?zzx ?zzn ?zzm ?zzb ?zzba ?_; (case zzs => rfl); (case zzo => exact out_below M7.out.out B8a.out); (case zzx => rfl); (case zzn => exact fun j hj => out_cell (l := put x8) O8a.out j hj); (case zzm => exact Nums.put_pos x8); (case zzb => omega); (case zzba => omega); intro g8 cap8 w8 o8 gr8 at8; have M8 := Seg.hid (Mid.ext M7.out (num_ext B8a.out o8 gr8 at8)); have s8 := M8.out.size; clear o8 gr8 at8; clear e0 e1 e2 e3 e4 e5 k1 k2; obtain ⟨e0, e1, e2, e3, e4, e5⟩ := six_of M8.out.var; obtain ⟨k1, k2⟩ := HX.out _ _ _ _ M8.out)
            obtain ⟨l8, hl8⟩ : ∃ l, l7 ++ put x8 = l := ⟨_, rfl⟩
            have hl8e : l7.length + (put x8).length = l8.length := by rw [← hl8, List.length_append]
            have HL8 : Hid (l7 ++ put (hk.key.size : Int) = l8) := by rw [HX8.out]; exact hl8
            rw [hl8] at M8
            rw [hl8e]
            have hl8l : l8.length ≤ 40000 := by omega
            clear hl8 hl8e
            go_wp2_with fail
            refine (Put.spec_any (hk.val.size : Int) w8 (by omega) (by omega)).mono ?_
            rintro e w9a ⟨g9a, cap9a, rfl, o9a, b9a⟩
            obtain ⟨x9, hx9⟩ : ∃ y : Int, (hk.val.size : Int) = y := ⟨_, rfl⟩
            have hp9 := put_le x9 (by omega)
            rw [hx9] at o9a ⊢
            have HX9 := Seg.hid hx9
            have O9a := Seg.hid o9a; have B9a := Seg.hid b9a
            have z9a := b9a.size
            try rw [hsz] at z9a
            clear o9a b9a hx9
            go_wp2_with (at_builtin; refine app rfl (.tmp 78) (.tmp 86) rfl w0.heap.size g8 cap8 l8 (put x9) ?zzs ?zzo ⟨g9a, 0, none⟩ cap9a ?zzx ?zzn ?zzm ?zzb ?zzba ?_; (case zzs => rfl); (case zzo => exact out_below M8.out.out B9a.out); (case zzx => rfl); (case zzn => exact fun j hj => out_cell (l := put x9) O9a.out j hj); (case zzm => exact Nums.put_pos x9); (case zzb => omega); (case zzba => omega); intro g9 cap9 w9 o9 gr9 at9; have M9 := Seg.hid (Mid.ext M8.out (num_ext B9a.out o9 gr9 at9)); have s9 := M9.out.size; clear o9 gr9 at9; clear e0 e1 e2 e3 e4 e5 k1 k2; obtain ⟨e0, e1, e2, e3, e4, e5⟩ := six_of M9.out.var; obtain ⟨k1, k2⟩ := HX.out _ _ _ _ M9.out)
            obtain ⟨l9, hl9⟩ : ∃ l, l8 ++ put x9 = l := ⟨_, rfl⟩
            have hl9e : l8.length + (put x9).length = l9.length := by rw [← hl9, List.length_append]
            have HL9 : Hid (l8 ++ put (hk.val.size : Int) = l9) := by rw [HX9.out]; exact hl9
            rw [hl9] at M9
            rw [hl9e]
            have hl9l : l9.length ≤ 40020 := by omega
            clear hl9 hl9e
            go_wp2_with fail
            have hba9 : w0.heap.size ≤ w9.heap.size := by omega
            go_region_held3 (fun w' => w'.cell? ⟨wo.heap.size, 5, none⟩ = some (.slice (some ⟨gh, oh, none⟩) r.heads.length ch) ∧ w'.cell? ⟨gh, oh + j * 2, none⟩ = some (.string hk.key) ∧ w'.cell? ⟨gh, oh + j * 2 + 1, none⟩ = some (.string hk.val)) (first | go_keep | exact K11.out | exact K10.out | exact ⟨e5, k1, k2⟩)
              (first | (refine step_appS (by rfl) (.tmp 88) (.tmp 94) (by rfl) w0.heap.size g9 cap9 l9 hk.key ?zzs ?zzo ?zzx ?zzb ?zzba ?_; (case zzs => rfl); (case zzo => exact M9.out.out); (case zzx => rfl); (case zzb => omega); (case zzba => exact hba9); intro g10 cap10 w10 o10 gr10 at10; replace gr10 : w9.grownBy w10 (some g9) := ⟨gr10.os, gr10.tape, gr10.output, gr10.size, gr10.block⟩; replace at10 : g10 = g9 ∨ g10 = w9.heap.size := at10; have hba10 : w0.heap.size ≤ w10.heap.size := Nat.le_trans hba9 gr10.size; have M10 := Seg.hid (Mid.ext M9.out (PuT.Ext.more (World.grownBy.refl _ _) (.inl rfl) o10 gr10 at10 rfl)); have z10 := M10.out.size; have K10 := Seg.hid (show w10.cell? ⟨wo.heap.size, 5, none⟩ = some (.slice (some ⟨gh, oh, none⟩) r.heads.length ch) ∧ w10.cell? ⟨gh, oh + j * 2, none⟩ = some (.string hk.key) ∧ w10.cell? ⟨gh, oh + j * 2 + 1, none⟩ = some (.string hk.val) from ⟨(six_of M10.out.var).2.2.2.2.2, HX.out _ _ _ _ M10.out⟩); clear o10 gr10 at10) | (refine step_appS (by rfl) (.tmp 95) (.tmp 101) (by rfl) w0.heap.size g10 cap10 (l9 ++ txt hk.key) hk.val ?zzs ?zzo ?zzx ?zzb ?zzba ?_; (case zzs => rw [List.length_append, txt_len]; rfl); (case zzo => exact M10.out.out); (case zzx => rfl); (case zzb => rw [List.length_append, txt_len]; omega); (case zzba => exact hba10); intro g11 cap11 w11 o11 gr11 at11; replace gr11 : w10.grownBy w11 (some g10) := ⟨gr11.os, gr11.tape, gr11.output, gr11.size, gr11.block⟩; replace at11 : g11 = g10 ∨ g11 = w10.heap.size := at11; have M11 := Seg.hid (Mid.ext M10.out (PuT.Ext.more (World.grownBy.refl _ _) (.inl rfl) o11 gr11 at11 rfl)); have K11 := Seg.hid (show w11.cell? ⟨wo.heap.size, 5, none⟩ = some (.slice (some ⟨gh, oh, none⟩) r.heads.length ch) ∧ w11.cell? ⟨gh, oh + j * 2, none⟩ = some (.string hk.key) ∧ w11.cell? ⟨gh, oh + j * 2 + 1, none⟩ = some (.string hk.val) from ⟨(six_of M11.out.var).2.2.2.2.2, HX.out _ _ _ _ M11.out⟩); clear o11 gr11 at11))
            have HF2 : Hid (l9 ++ txt hk.key ++ txt hk.val = cu ++ hd hk) := by
              have a1 := HL8.out; have a2 := HL9.out
              show _ = _
              rw [HL7.out, hd, ← a2, ← a1]
              simp only [List.append_assoc]
            have N7 : Hid (∀ n, n = (cu ++ hd hk).length → AtH wo w11 w0.heap.size g2 (.cells #[.int .i64 r.time, .bool true, .string r.key, .bool false, .string r.val, .slice (some ⟨gh, oh, none⟩) r.heads.length ch] 75 (0, 0)) l6 r.heads (j + 1) (.slice (some ⟨g11, 0, none⟩) n cap11) (cu ++ hd hk)) := fun n hn => AtH.next HPH.out hjl HHK.out (HF2.out ▸ M11.out) hn
            go_wp2
            go_roundw
            case rel => exact ⟨j + 1, _, by go_num, N7.out _ (by rw [← HF2.out]; simp only [List.length_append, txt_len])⟩
            case measure => simp [intOf]; omega
          · obtain rfl : j = r.heads.length := by omega
            have HE : Hid (l7 = cur ++ rec1 ver tm r) := by
              have := HPH.out.eq
              rw [List.drop_length, hdsB, List.append_nil] at this
              show _ = _
              rw [← HL7.out, this]
              exact HF.out
            have N6 : Hid (AtB w0 wr ver t.recs (k + 1) r.time (.slice (some ⟨g7, 0, none⟩) l7.length cap7) (cur ++ rec1 ver tm r)) := AtB.next HP.out hlt HRk.out OK.out hg2 (HE.out ▸ M7.out) (by rw [HE.out])
            go_wp2
            go_roundw
            case rel => exact ⟨k + 1, r.time, _, by go_num, rfl, N6.out⟩
            case measure => simp [intOf]; omega
      · have ht2 : (ver == 2) = false := by simp [hv2]
        replace hv2 := Seg.hid hv2
        go_wp2_with fail
        refine (Put.spec_any (r.time - tm) (wr.alloc _) (by omega) (by omega)).mono ?_
        rintro e w3a ⟨g3a, cap3a, rfl, o3a, b3a⟩
        obtain ⟨x3, hx3⟩ : ∃ y : Int, (r.time - tm) = y := ⟨_, rfl⟩
        have hp3 := put_le x3 (by omega)
        rw [hx3] at o3a ⊢
        have HX3 := Seg.hid hx3
        have O3a := Seg.hid o3a; have B3a := Seg.hid b3a
        have z3a := b3a.size
        try rw [hsz] at z3a
        clear o3a b3a hx3
        go_wp2_with (at_builtin; refine app rfl (.tmp 26) (.tmp 31) rfl w0.heap.size g2 cap2 l2 (put x3) ?zzs ?zzo ⟨g3a, 0, none⟩ cap3a ?zzx ?zzn ?zzm ?zzb ?zzba ?_; (case zzs => rfl); (case zzo => exact out_below M2.out.out B3a.out); (case zzx => rfl); (case zzn => exact fun j hj => out_cell (l := put x3) O3a.out j hj); (case zzm => exact Nums.put_pos x3); (case zzb => omega); (case zzba => omega); intro g3 cap3 w3 o3 gr3 at3; have M3 := Seg.hid (Mid.ext M2.out (num_ext B3a.out o3 gr3 at3)); have s3 := M3.out.size; clear o3 gr3 at3; obtain ⟨e0, e1, e2, e3, e4, e5⟩ := six_of M3.out.var)
        obtain ⟨l3, hl3⟩ : ∃ l, l2 ++ put x3 = l := ⟨_, rfl⟩
        have hl3e : l2.length + (put x3).length = l3.length := by rw [← hl3, List.length_append]
        have HL3 : Hid (l2 ++ put (r.time - tm) = l3) := by rw [HX3.out]; exact hl3
        rw [hl3] at M3
        rw [hl3e]
        have hl3l : l3.length ≤ 38000 := by omega
        clear hl3 hl3e
        go_wp2_with fail
        refine (l2Text_any g3 cap3 w0.heap.size l3 r.key w3 (by omega) (by omega) M3.out.out (by omega)).mono ?_
        rintro e w4 hE
        have hd4 := txtIf_le true r.key (by omega)
        obtain ⟨l4, hl4⟩ : ∃ l, l3 ++ txtIf true r.key = l := ⟨_, rfl⟩
        have hl4l : l4.length ≤ 38200 := by rw [← hl4, List.length_append]; omega
        rw [hl4] at hE
        have HL4 := Seg.hid hl4
        obtain ⟨g4, cap4, rfl, m4⟩ := M3.out.step hE
        have M4 := Seg.hid m4
        have s4 := m4.size
        clear m4 hE hl4 e0 e1 e2 e3 e4 e5
        obtain ⟨e0, e1, e2, e3, e4, e5⟩ := six_of M4.out.var
        go_wp2_with fail
        refine (l2Text_any g4 cap4 w0.heap.size l4 r.val w4 (by omega) (by omega) M4.out.out (by omega)).mono ?_
        rintro e w5 hE
        have hd5 := txtIf_le true r.val (by omega)
        obtain ⟨l5, hl5⟩ : ∃ l, l4 ++ txtIf true r.val = l := ⟨_, rfl⟩
        have hl5l : l5.length ≤ 38400 := by rw [← hl5, List.length_append]; omega
        rw [hl5] at hE
        have HL5 := Seg.hid hl5
        obtain ⟨g5, cap5, rfl, m5⟩ := M4.out.step hE
        have M5 := Seg.hid m5
        have s5 := m5.size
        clear m5 hE hl5 e0 e1 e2 e3 e4 e5
        obtain ⟨e0, e1, e2, e3, e4, e5⟩ := six_of M5.out.var
        have HF : Hid (l5 = cur ++ rec1 ver tm r) := by
          have a1 := HL3.out; have a2 := HL4.out; have a3 := HL5.out
          show _ = _
          rw [HL2.out, rec1, hdsV, if_neg hv2.out, HK.out, HG.out, ← a3, ← a2, ← a1]
          simp [txtIf]
        have N6 : Hid (AtB w0 w5 ver t.recs (k + 1) r.time (.slice (some ⟨g5, 0, none⟩) l5.length cap5) (cur ++ rec1 ver tm r)) := AtB.next HP.out hlt HRk.out OK.out hg2 (HF.out ▸ M5.out) (by rw [HF.out])
        go_wp2
        go_roundw
        case rel => exact ⟨k + 1, r.time, _, by go_num, rfl, N6.out⟩
        case measure => simp [intOf]; omega
      · have ht2 : (ver == 2) = true := by simp [hv2]
        replace hv2 := Seg.hid hv2
        go_wp2_with fail
        refine (Put.spec_any (r.time - tm) (wr.alloc _) (by omega) (by omega)).mono ?_
        rintro e w3a ⟨g3a, cap3a, rfl, o3a, b3a⟩
        obtain ⟨x3, hx3⟩ : ∃ y : Int, (r.time - tm) = y := ⟨_, rfl⟩
        have hp3 := put_le x3 (by omega)
        rw [hx3] at o3a ⊢
        have HX3 := Seg.hid hx3
        have O3a := Seg.hid o3a; have B3a := Seg.hid b3a
        have z3a := b3a.size
        try rw [hsz] at z3a
        clear o3a b3a hx3
        go_wp2_with (at_builtin; refine app rfl (.tmp 26) (.tmp 31) rfl w0.heap.size g2 cap2 l2 (put x3) ?zzs ?zzo ⟨g3a, 0, none⟩ cap3a ?zzx ?zzn ?zzm ?zzb ?zzba ?_; (case zzs => rfl); (case zzo => exact out_below M2.out.out B3a.out); (case zzx => rfl); (case zzn => exact fun j hj => out_cell (l := put x3) O3a.out j hj); (case zzm => exact Nums.put_pos x3); (case zzb => omega); (case zzba => omega); intro g3 cap3 w3 o3 gr3 at3; have M3 := Seg.hid (Mid.ext M2.out (num_ext B3a.out o3 gr3 at3)); have s3 := M3.out.size; clear o3 gr3 at3; obtain ⟨e0, e1, e2, e3, e4, e5⟩ := six_of M3.out.var)
        obtain ⟨l3, hl3⟩ : ∃ l, l2 ++ put x3 = l := ⟨_, rfl⟩
        have hl3e : l2.length + (put x3).length = l3.length := by rw [← hl3, List.length_append]
        have HL3 : Hid (l2 ++ put (r.time - tm) = l3) := by rw [HX3.out]; exact hl3
        rw [hl3] at M3
        rw [hl3e]
        have hl3l : l3.length ≤ 38000 := by omega
        clear hl3 hl3e
        go_wp2_with fail
        refine (l2Text_any g3 cap3 w0.heap.size l3 r.key w3 (by omega) (by omega) M3.out.out (by omega)).mono ?_
        rintro e w4 hE
        have hd4 := txtIf_le true r.key (by omega)
        obtain ⟨l4, hl4⟩ : ∃ l, l3 ++ txtIf true r.key = l := ⟨_, rfl⟩
        have hl4l : l4.length ≤ 38200 := by rw [← hl4, List.length_append]; omega
        rw [hl4] at hE
        have HL4 := Seg.hid hl4
        obtain ⟨g4, cap4, rfl, m4⟩ := M3.out.step hE
        have M4 := Seg.hid m4
        have s4 := m4.size
        clear m4 hE hl4 e0 e1 e2 e3 e4 e5
        obtain ⟨e0, e1, e2, e3, e4, e5⟩ := six_of M4.out.var
        go_wp2_with fail
        refine (Put.spec_any (-1) w4 (by omega) (by omega)).mono ?_
        rintro e w5a ⟨g5a, cap5a, rfl, o5a, b5a⟩
        obtain ⟨x5, hx5⟩ : ∃ y : Int, (-1) = y := ⟨_, rfl⟩
        have hp5 := put_le x5 (by omega)
        rw [hx5] at o5a ⊢
        have HX5 := Seg.hid hx5
        have O5a := Seg.hid o5a; have B5a := Seg.hid b5a
        have z5a := b5a.size
        try rw [hsz] at z5a
        clear o5a b5a hx5
        go_wp2_with (at_builtin; refine app rfl (.tmp 46) (.tmp 47) rfl w0.heap.size g4 cap4 l4 (put x5) ?zzs ?zzo ⟨g5a, 0, none⟩ cap5a ?zzx ?zzn ?zzm ?zzb ?zzba ?_; (case zzs => rfl); (case zzo => exact out_below M4.out.out B5a.out); (case zzx => rfl); (case zzn => exact fun j hj => out_cell (l := put x5) O5a.out j hj); (case zzm => exact Nums.put_pos x5); (case zzb => omega); (case zzba => omega); intro g5 cap5 w5 o5 gr5 at5; have M5 := Seg.hid (Mid.ext M4.out (num_ext B5a.out o5 gr5 at5)); have s5 := M5.out.size; clear o5 gr5 at5; clear e0 e1 e2 e3 e4 e5; obtain ⟨e0, e1, e2, e3, e4, e5⟩ := six_of M5.out.var)
        obtain ⟨l5, hl5⟩ : ∃ l, l4 ++ put x5 = l := ⟨_, rfl⟩
        have hl5e : l4.length + (put x5).length = l5.length := by rw [← hl5, List.length_append]
        have HL5 : Hid (l4 ++ put (-1) = l5) := by rw [HX5.out]; exact hl5
        rw [hl5] at M5
        rw [hl5e]
        have hl5l : l5.length ≤ 38400 := by omega
        clear hl5 hl5e
        go_wp2_with fail
        refine (Put.spec_any (r.heads.length : Int) w5 (by omega) (by omega)).mono ?_
        rintro e w6a ⟨g6a, cap6a, rfl, o6a, b6a⟩
        obtain ⟨x6, hx6⟩ : ∃ y : Int, (r.heads.length : Int) = y := ⟨_, rfl⟩
        have hp6 := put_le x6 (by omega)
        rw [hx6] at o6a ⊢
        have HX6 := Seg.hid hx6
        have O6a := Seg.hid o6a; have B6a := Seg.hid b6a
        have z6a := b6a.size
        try rw [hsz] at z6a
        clear o6a b6a hx6
        go_wp2_with (at_builtin; refine app rfl (.tmp 55) (.tmp 59) rfl w0.heap.size g5 cap5 l5 (put x6) ?zzs ?zzo ⟨g6a, 0, none⟩ cap6a ?zzx ?zzn ?zzm ?zzb ?zzba ?_; (case zzs => rfl); (case zzo => exact out_below M5.out.out B6a.out); (case zzx => rfl); (case zzn => exact fun j hj => out_cell (l := put x6) O6a.out j hj); (case zzm => exact Nums.put_pos x6); (case zzb => omega); (case zzba => omega); intro g6 cap6 w6 o6 gr6 at6; have M6 := Seg.hid (Mid.ext M5.out (num_ext B6a.out o6 gr6 at6)); have s6 := M6.out.size; clear o6 gr6 at6; clear e0 e1 e2 e3 e4 e5; obtain ⟨e0, e1, e2, e3, e4, e5⟩ := six_of M6.out.var)
        obtain ⟨l6, hl6⟩ : ∃ l, l5 ++ put x6 = l := ⟨_, rfl⟩
        have hl6e : l5.length + (put x6).length = l6.length := by rw [← hl6, List.length_append]
        have HL6 : Hid (l5 ++ put (r.heads.length : Int) = l6) := by rw [HX6.out]; exact hl6
        rw [hl6] at M6
        rw [hl6e]
        have hl6l : l6.length ≤ 38500 := by omega
        clear hl6 hl6e
        obtain ⟨wo, rfl⟩ : ∃ x, x = wr := ⟨_, rfl⟩
        have H6 : Hid (AtH wo w6 w0.heap.size g2 (.cells #[.int .i64 r.time, .bool true, .string r.key, .bool true, .string r.val, .slice Ah r.heads.length ch] 75 (0, 0)) l6 r.heads 0 (.slice (some ⟨g6, 0, none⟩) l6.length cap6) l6) := ⟨Nat.zero_le _, ⟨g6, cap6, rfl, M6.out⟩, rfl⟩
        have HF : Hid (l6 ++ hdsB r.heads = cur ++ rec1 ver tm r) := by
          have a1 := HL3.out; have a2 := HL4.out; have a3 := HL5.out; have a4 := HL6.out
          show _ = _
          rw [HL2.out, rec1, hdsV, if_pos hv2.out, hds, HK.out, HG.out, ← a4, ← a3, ← a2, ← a1]
          simp [txtIf]
        clear e0 e1 e2 e3 e4 e5 c0 c1 c2 c3 c4 c5 f6
        go_wp2_with fail
        go_loopw [5, 9] (fun v i wk => ∃ (j : Nat) (cu : List Int), i = .int .i64 j ∧ AtH wo wk w0.heap.size g2 (.cells #[.int .i64 r.time, .bool true, .string r.key, .bool true, .string r.val, .slice Ah r.heads.length ch] 75 (0, 0)) l6 r.heads j v cu) (fun _ i _ => r.heads.length - (intOf i).toNat)
        case atStart => exact ⟨0, l6, rfl, H6.out⟩
        case round =>
          clear H6
          obtain ⟨j, cu, rfl, PH⟩ := hrel
          have HPH := Seg.hid PH
          have hcu := PH.len Q6.out q5
          have hj := PH.le
          obtain ⟨g7, cap7, rfl, m7⟩ := PH.ou
          obtain ⟨l7, hl7⟩ : ∃ l, cu = l := ⟨_, rfl⟩
          have HL7 := Seg.hid hl7
          rw [hl7] at m7 hcu ⊢
          have M7 := Seg.hid m7
          have s7 := m7.size
          obtain ⟨e0, e1, e2, e3, e4, e5⟩ := six_of m7.var
          clear PH m7 hl7
          by_cases hjl : j < r.heads.length
          · obtain ⟨gh, oh, rfl, hgh, hch, hcl2, _⟩ := HHc.out.resolve_left (by omega)
            have HX : Hid (∀ wk g cap l, Mid wo wk w0.heap.size g2 (.cells #[.int .i64 r.time, .bool true, .string r.key, .bool true, .string r.val, .slice (some ⟨gh, oh, none⟩) r.heads.length ch] 75 (0, 0)) l g cap → wk.cell? ⟨gh, oh + j * 2, none⟩ = some (.string (r.heads.getD j default).key) ∧ wk.cell? ⟨gh, oh + j * 2 + 1, none⟩ = some (.string (r.heads.getD j default).val)) := fun wk g cap l M => Heads.cell0 (heads_mid M HP.out.bl hg2 hb0 hgh hcl2) j hjl
            obtain ⟨y1, y2⟩ := okH_parts (okH_at Q6.out hjl)
            obtain ⟨hk, hhk⟩ : ∃ h, r.heads.getD j default = h := ⟨_, rfl⟩
            have HHK := Seg.hid hhk
            rw [hhk] at HX y1 y2
            obtain ⟨k1, k2⟩ := HX.out _ _ _ _ M7.out
            have j0 : (0 : Int) ≤ (j : Int) := by omega
            have j1 : (j : Int) < (r.heads.length : Int) := by omega
            clear hhk hcl2
            go_wp2_with fail
            refine (Put.spec_any (hk.key.size : Int) wr (by omega) (by omega)).mono ?_
            rintro e w8a ⟨g8a, cap8a, rfl, o8a, b8a⟩
            obtain ⟨x8, hx8⟩ : ∃ y : Int, (hk.key.size : Int) = y := ⟨_, rfl⟩
            have hp8 := put_le x8 (by omega)
            rw [hx8] at o8a ⊢
            have HX8 := Seg.hid hx8
            have O8a := Seg.hid o8a; have B8a := Seg.hid b8a
            have z8a := b8a.size
            try rw [hsz] at z8a
            clear o8a b8a hx8
            go_wp2_with (at_builtin; refine app rfl (.tmp 68) (.tmp 76) rfl w0.heap.size g7 cap7 l7 (put x8) ?zzs ?zzo ⟨g8a, 0, none⟩ cap8a ?zzx ?zzn ?zzm ?zzb ?zzba ?_; (case zzs => rfl); (case zzo => exact out_below M7.out.out B8a.out); (case zzx => rfl); (case zzn => exact fun j hj => out_cell (l := put x8) O8a.out j hj); (case zzm => exact Nums.put_pos x8); (case zzb => omega); (case zzba => omega); intro g8 cap8 w8 o8 gr8 at8; have M8 := Seg.hid (Mid.ext M7.out (num_ext B8a.out o8 gr8 at8)); have s8 := M8.out.size; clear o8 gr8 at8; clear e0 e1 e2 e3 e4 e5 k1 k2; obtain ⟨e0, e1, e2, e3, e4, e5⟩ := six_of M8.out.var; obtain ⟨k1, k2⟩ := HX.out _ _ _ _ M8.out)
            obtain ⟨l8, hl8⟩ : ∃ l, l7 ++ put x8 = l := ⟨_, rfl⟩
            have hl8e : l7.length + (put x8).length = l8.length := by rw [← hl8, List.length_append]
            have HL8 : Hid (l7 ++ put (hk.key.size : Int) = l8) := by rw [HX8.out]; exact hl8
            rw [hl8] at M8
            rw [hl8e]
            have hl8l : l8.length ≤ 40000 := by omega
            clear hl8 hl8e
            go_wp2_with fail
            refine (Put.spec_any (hk.val.size : Int) w8 (by omega) (by omega)).mono ?_
            rintro e w9a ⟨g9a, cap9a, rfl, o9a, b9a⟩
            obtain ⟨x9, hx9⟩ : ∃ y : Int, (hk.val.size : Int) = y := ⟨_, rfl⟩
            have hp9 := put_le x9 (by omega)
            rw [hx9] at o9a ⊢
            have HX9 := Seg.hid hx9
            have O9a := Seg.hid o9a; have B9a := Seg.hid b9a
            have z9a := b9a.size
            try rw [hsz] at z9a
            clear o9a b9a hx9
            go_wp2_with (at_builtin; refine app rfl (.tmp 78) (.tmp 86) rfl w0.heap.size g8 cap8 l8 (put x9) ?zzs ?zzo ⟨g9a, 0, none⟩ cap9a ?zzx ?zzn ?zzm ?zzb ?zzba ?_; (case zzs => rfl); (case zzo => exact out_below M8.out.out B9a.out); (case zzx => rfl); (case zzn => exact fun j hj => out_cell (l := put x9) O9a.out j hj); (case zzm => exact Nums.put_pos x9); (case zzb => omega); (case zzba => omega); intro g9 cap9 w9 o9 gr9 at9; have M9 := Seg.hid (Mid.ext M8.out (num_ext B9a.out o9 gr9 at9)); have s9 := M9.out.size; clear o9 gr9 at9; clear e0 e1 e2 e3 e4 e5 k1 k2; obtain ⟨e0, e1, e2, e3, e4, e5⟩ := six_of M9.out.var; obtain ⟨k1, k2⟩ := HX.out _ _ _ _ M9.out)
            obtain ⟨l9, hl9⟩ : ∃ l, l8 ++ put x9 = l := ⟨_, rfl⟩
            have hl9e : l8.length + (put x9).length = l9.length := by rw [← hl9, List.length_append]
            have HL9 : Hid (l8 ++ put (hk.val.size : Int) = l9) := by rw [HX9.out]; exact hl9
            rw [hl9] at M9
            rw [hl9e]
            have hl9l : l9.length ≤ 40020 := by omega
            clear hl9 hl9e
            go_wp2_with fail
            have hba9 : w0.heap.size ≤ w9.heap.size := by omega
            go_region_held3 (fun w' => w'.cell? ⟨wo.heap.size, 5, none⟩ = some (.slice (some ⟨gh, oh, none⟩) r.heads.length ch) ∧ w'.cell? ⟨gh, oh + j * 2, none⟩ = some (.string hk.key) ∧ w'.cell? ⟨gh, oh + j * 2 + 1, none⟩ = some (.string hk.val)) (first | go_keep | exact K11.out | exact K10.out | exact ⟨e5, k1, k2⟩)
              (first | (refine step_appS (by rfl) (.tmp 88) (.tmp 94) (by rfl) w0.heap.size g9 cap9 l9 hk.key ?zzs ?zzo ?zzx ?zzb ?zzba ?_; (case zzs => rfl); (case zzo => exact M9.out.out); (case zzx => rfl); (case zzb => omega); (case zzba => exact hba9); intro g10 cap10 w10 o10 gr10 at10; replace gr10 : w9.grownBy w10 (some g9) := ⟨gr10.os, gr10.tape, gr10.output, gr10.size, gr10.block⟩; replace at10 : g10 = g9 ∨ g10 = w9.heap.size := at10; have hba10 : w0.heap.size ≤ w10.heap.size := Nat.le_trans hba9 gr10.size; have M10 := Seg.hid (Mid.ext M9.out (PuT.Ext.more (World.grownBy.refl _ _) (.inl rfl) o10 gr10 at10 rfl)); have z10 := M10.out.size; have K10 := Seg.hid (show w10.cell? ⟨wo.heap.size, 5, none⟩ = some (.slice (some ⟨gh, oh, none⟩) r.heads.length ch) ∧ w10.cell? ⟨gh, oh + j * 2, none⟩ = some (.string hk.key) ∧ w10.cell? ⟨gh, oh + j * 2 + 1, none⟩ = some (.string hk.val) from ⟨(six_of M10.out.var).2.2.2.2.2, HX.out _ _ _ _ M10.out⟩); clear o10 gr10 at10) | (refine step_appS (by rfl) (.tmp 95) (.tmp 101) (by rfl) w0.heap.size g10 cap10 (l9 ++ txt hk.key) hk.val ?zzs ?zzo ?zzx ?zzb ?zzba ?_; (case zzs => rw [List.length_append, txt_len]; rfl); (case zzo => exact M10.out.out); (case zzx => rfl); (case zzb => rw [List.length_append, txt_len]; omega); (case zzba => exact hba10); intro g11 cap11 w11 o11 gr11 at11; replace gr11 : w10.grownBy w11 (some g10) := ⟨gr11.os, gr11.tape, gr11.output, gr11.size, gr11.block⟩; replace at11 : g11 = g10 ∨ g11 = w10.heap.size := at11; have M11 := Seg.hid (Mid.ext M10.out (PuT.Ext.more (World.grownBy.refl _ _) (.inl rfl) o11 gr11 at11 rfl)); have K11 := Seg.hid (show w11.cell? ⟨wo.heap.size, 5, none⟩ = some (.slice (some ⟨gh, oh, none⟩) r.heads.length ch) ∧ w11.cell? ⟨gh, oh + j * 2, none⟩ = some (.string hk.key) ∧ w11.cell? ⟨gh, oh + j * 2 + 1, none⟩ = some (.string hk.val) from ⟨(six_of M11.out.var).2.2.2.2.2, HX.out _ _ _ _ M11.out⟩); clear o11 gr11 at11))
            have HF2 : Hid (l9 ++ txt hk.key ++ txt hk.val = cu ++ hd hk) := by
              have a1 := HL8.out; have a2 := HL9.out
              show _ = _
              rw [HL7.out, hd, ← a2, ← a1]
              simp only [List.append_assoc]
            have N7 : Hid (∀ n, n = (cu ++ hd hk).length → AtH wo w11 w0.heap.size g2 (.cells #[.int .i64 r.time, .bool true, .string r.key, .bool true, .string r.val, .slice (some ⟨gh, oh, none⟩) r.heads.length ch] 75 (0, 0)) l6 r.heads (j + 1) (.slice (some ⟨g11, 0, none⟩) n cap11) (cu ++ hd hk)) := fun n hn => AtH.next HPH.out hjl HHK.out (HF2.out ▸ M11.out) hn
            go_wp2
            go_roundw
            case rel => exact ⟨j + 1, _, by go_num, N7.out _ (by rw [← HF2.out]; simp only [List.length_append, txt_len])⟩
            case measure => simp [intOf]; omega
          · obtain rfl : j = r.heads.length := by omega
            have HE : Hid (l7 = cur ++ rec1 ver tm r) := by
              have := HPH.out.eq
              rw [List.drop_length, hdsB, List.append_nil] at this
              show _ = _
              rw [← HL7.out, this]
              exact HF.out
            have N6 : Hid (AtB w0 wr ver t.recs (k + 1) r.time (.slice (some ⟨g7, 0, none⟩) l7.length cap7) (cur ++ rec1 ver tm r)) := AtB.next HP.out hlt HRk.out OK.out hg2 (HE.out ▸ M7.out) (by rw [HE.out])
            go_wp2
            go_roundw
            case rel => exact ⟨k + 1, r.time, _, by go_num, rfl, N6.out⟩
            case measure => simp [intOf]; omega
      · have ht2 : (ver == 2) = false := by simp [hv2]
        replace hv2 := Seg.hid hv2
        go_wp2_with fail
        refine (Put.spec_any (r.time - tm) (wr.alloc _) (by omega) (by omega)).mono ?_
        rintro e w3a ⟨g3a, cap3a, rfl, o3a, b3a⟩
        obtain ⟨x3, hx3⟩ : ∃ y : Int, (r.time - tm) = y := ⟨_, rfl⟩
        have hp3 := put_le x3 (by omega)
        rw [hx3] at o3a ⊢
        have HX3 := Seg.hid hx3
        have O3a := Seg.hid o3a; have B3a := Seg.hid b3a
        have z3a := b3a.size
        try rw [hsz] at z3a
        clear o3a b3a hx3
        go_wp2_with (at_builtin; refine app rfl (.tmp 26) (.tmp 31) rfl w0.heap.size g2 cap2 l2 (put x3) ?zzs ?zzo ⟨g3a, 0, none⟩ cap3a ?zzx ?zzn ?zzm ?zzb ?zzba ?_; (case zzs => rfl); (case zzo => exact out_below M2.out.out B3a.out); (case zzx => rfl); (case zzn => exact fun j hj => out_cell (l := put x3) O3a.out j hj); (case zzm => exact Nums.put_pos x3); (case zzb => omega); (case zzba => omega); intro g3 cap3 w3 o3 gr3 at3; have M3 := Seg.hid (Mid.ext M2.out (num_ext B3a.out o3 gr3 at3)); have s3 := M3.out.size; clear o3 gr3 at3; obtain ⟨e0, e1, e2, e3, e4, e5⟩ := six_of M3.out.var)
        obtain ⟨l3, hl3⟩ : ∃ l, l2 ++ put x3 = l := ⟨_, rfl⟩
        have hl3e : l2.length + (put x3).length = l3.length := by rw [← hl3, List.length_append]
        have HL3 : Hid (l2 ++ put (r.time - tm) = l3) := by rw [HX3.out]; exact hl3
        rw [hl3] at M3
        rw [hl3e]
        have hl3l : l3.length ≤ 38000 := by omega
        clear hl3 hl3e
        go_wp2_with fail
        refine (l2Text_any g3 cap3 w0.heap.size l3 r.key w3 (by omega) (by omega) M3.out.out (by omega)).mono ?_
        rintro e w4 hE
        have hd4 := txtIf_le true r.key (by omega)
        obtain ⟨l4, hl4⟩ : ∃ l, l3 ++ txtIf true r.key = l := ⟨_, rfl⟩
        have hl4l : l4.length ≤ 38200 := by rw [← hl4, List.length_append]; omega
        rw [hl4] at hE
        have HL4 := Seg.hid hl4
        obtain ⟨g4, cap4, rfl, m4⟩ := M3.out.step hE
        have M4 := Seg.hid m4
        have s4 := m4.size
        clear m4 hE hl4 e0 e1 e2 e3 e4 e5
        obtain ⟨e0, e1, e2, e3, e4, e5⟩ := six_of M4.out.var
        go_wp2_with fail
        refine (Put.spec_any (-1) w4 (by omega) (by omega)).mono ?_
        rintro e w5a ⟨g5a, cap5a, rfl, o5a, b5a⟩
        obtain ⟨x5, hx5⟩ : ∃ y : Int, (-1) = y := ⟨_, rfl⟩
        have hp5 := put_le x5 (by omega)
        rw [hx5] at o5a ⊢
        have HX5 := Seg.hid hx5
        have O5a := Seg.hid o5a; have B5a := Seg.hid b5a
        have z5a := b5a.size
        try rw [hsz] at z5a
        clear o5a b5a hx5
        go_wp2_with (at_builtin; refine app rfl (.tmp 46) (.tmp 47) rfl w0.heap.size g4 cap4 l4 (put x5) ?zzs ?zzo ⟨g5a, 0, none⟩ cap5a ?zzx ?zzn ?zzm ?zzb ?zzba ?_; (case zzs => rfl); (case zzo => exact out_below M4.out.out B5a.out); (case zzx => rfl); (case zzn => exact fun j hj => out_cell (l := put x5) O5a.out j hj); (case zzm => exact Nums.put_pos x5); (case zzb => omega); (case zzba => omega); intro g5 cap5 w5 o5 gr5 at5; have M5 := Seg.hid (Mid.ext M4.out (num_ext B5a.out o5 gr5 at5)); have s5 := M5.out.size; clear o5 gr5 at5; clear e0 e1 e2 e3 e4 e5; obtain ⟨e0, e1, e2, e3, e4, e5⟩ := six_of M5.out.var)
        obtain ⟨l5, hl5⟩ : ∃ l, l4 ++ put x5 = l := ⟨_, rfl⟩
        have hl5e : l4.length + (put x5).length = l5.length := by rw [← hl5, List.length_append]
        have HL5 : Hid (l4 ++ put (-1) = l5) := by rw [HX5.out]; exact hl5
        rw [hl5] at M5
        rw [hl5e]
        have hl5l : l5.length ≤ 38400 := by omega
        clear hl5 hl5e
        have HF : Hid (l5 = cur ++ rec1 ver tm r) := by
          have a1 := HL3.out; have a2 := HL4.out; have a3 := HL5.out
          show _ = _
          rw [HL2.out, rec1, hdsV, if_neg hv2.out, HK.out, HG.out, ← a3, ← a2, ← a1]
          simp [txtIf]
        have N6 : Hid (AtB w0 w5 ver t.recs (k + 1) r.time (.slice (some ⟨g5, 0, none⟩) l5.length cap5) (cur ++ rec1 ver tm r)) := AtB.next HP.out hlt HRk.out OK.out hg2 (HF.out ▸ M5.out) (by rw [HF.out])
        go_wp2
        go_roundw
        case rel => exact ⟨k + 1, r.time, _, by go_num, rfl, N6.out⟩
        case measure => simp [intOf]; omega
    · obtain rfl : k = t.recs.length := by omega
      have HE : Hid (cur = body ver t.recs) := by
        have := HP.out.eq
        rw [List.drop_length, recs, List.append_nil] at this
        exact this
      have BF := Seg.hid (chain B0.out HP.out.bl)
      go_wp2
      go_ret
      exact ⟨g2, cap2, by rw [← HE.out]; rfl, HE.out ▸ S0 ▸ O2.out, BF.out⟩
end Go.Proofs.YtoplbemolnpngaaGreat.WrS
