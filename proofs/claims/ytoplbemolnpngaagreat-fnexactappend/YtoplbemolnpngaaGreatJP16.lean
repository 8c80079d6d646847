/- writeBody of the program; What the two Checks answer: the plain check of the bytes; The table that the program's Check makes: for each half byte its four steps. -/
import Derived.Outline
import Derived.Deep.MidRow
import Derived.Test.YtoplbemolnpngaaGreatRows
import Derived.Test.YtoplbemolnpngaaGreatJP15
import Derived.Test.YtoplbemolnpngaaGreatJP02
import Derived.Test.YtoplbemolnpngaaGreatJP01
import Derived.Test.YtoplbemolnpngaaGreatJP12
namespace Go.Proofs.YtoplbemolnpngaaGreat.WrB
set_option maxRecDepth 8000
open Go.RowKit
open Seg (B)
open SqP (Out grow)
open Nums (put)
open PuI (Ext below_grown out_below out_lt)
open PuT (ints_new kept one_in nums1 putTextIf_any putHeads_any)
open WrP
open Recs (Hd Rec Heads RecsAt below1 hsz recCells)
set_option linter.unusedVariables false

/-- A round's variable lies at the old end of memory; what is out is this. -/
structure Mid (wr w : World) (base g1 : Nat) (X : Obj) (cur : List Int) (g2 cap2 : Nat) : Prop where
  out : Out w base g2 cap2 cur
  at_ : g2 = g1 ∨ wr.heap.size + 1 ≤ g2
  lt : g1 < wr.heap.size
  gr : (wr.alloc X).grownBy w (some g1)
  var : w.heap[wr.heap.size]? = some X
theorem Mid.start {wr : World} {base g1 cap1 : Nat} {X : Obj} {cur : List Int} (h : Out wr base g1 cap1 cur) : Mid wr (wr.alloc X) base g1 X cur g1 cap1 :=
  ⟨World.ownsRow.alloc h _, .inl rfl, (out_lt h).2, World.grownBy.refl _ _, heap_alloc_new _ _⟩
theorem Mid.step {wr w w' : World} {base g1 g2 cap2 : Nat} {X : Obj} {cur l : List Int} {e : Ending} (h : Mid wr w base g1 X cur g2 cap2) (E : Ext w w' base g2 l e) :
    ∃ g3 cap3, e = .returned (.slice (some ⟨g3, 0, none⟩) l.length cap3) ∧ Mid wr w' base g1 X l g3 cap3 := by
  obtain ⟨⟨g3, cap3, rfl, o3, h3⟩, gr3⟩ := E
  have s1 := h.gr.size
  rw [hsz] at s1
  have a := h.at_; have b := h.lt
  refine ⟨g3, cap3, rfl, o3, by omega, b, ?_, kept h.var gr3 (by omega)⟩
  exact grow h.gr gr3 (by rw [hsz]; omega)
theorem Mid.size {wr w : World} {base g1 g2 cap2 : Nat} {X : Obj} {cur : List Int} (h : Mid wr w base g1 X cur g2 cap2) : wr.heap.size < w.heap.size := by
  have := h.gr.size
  rw [hsz] at this
  omega
theorem Mid.below {w0 wr w : World} {base g1 g2 cap2 : Nat} {X : Obj} {cur : List Int} (h : Mid wr w base g1 X cur g2 cap2) (hb : Below base w0 wr) (hg : base ≤ g1) : Below base w0 w := by
  have := h.lt
  exact (hb.alloc (by omega) _).grown h.gr (by rw [hsz]; omega) (fun k hk => by cases hk; exact hg)

/-- Where the body stands: what is out, the records from the k-th on are still to be put. -/
structure AtB (w wr : World) (ver : Int) (rs : List Rec) (k : Nat) (tm : Int) (v : Value) (cur : List Int) : Prop where
  le : k ≤ rs.length
  tl : 0 ≤ tm ∧ tm ≤ 1000000000000
  ou : ∃ g cap, v = .slice (some ⟨g, 0, none⟩) cur.length cap ∧ Out wr w.heap.size g cap cur
  eq : cur ++ recs ver tm (rs.drop k) = body ver rs
  bl : Below w.heap.size w wr
theorem AtB.next {w wr w' : World} {ver tm : Int} {rs : List Rec} {k g1 g2 cap2 : Nat} {v : Value} {cur : List Int} {X : Obj} {r : Rec} (h : AtB w wr ver rs k tm v cur) (hk : k < rs.length) (hr : rs.getD k default = r) (hok : ROk.okR r = true)
    (hb : w.heap.size ≤ g1) (M : Mid wr w' w.heap.size g1 X (cur ++ rec1 ver tm r) g2 cap2) {n : Nat} (hn : n = (cur ++ rec1 ver tm r).length) : AtB w w' ver rs (k + 1) r.time (.slice (some ⟨g2, 0, none⟩) n cap2) (cur ++ rec1 ver tm r) := by
  obtain ⟨t1, t2, _⟩ := okR_parts hok
  refine ⟨hk, ⟨t1, t2⟩, ⟨g2, cap2, by rw [hn], M.out⟩, ?_, M.below h.bl hb⟩
  rw [← h.eq, recs_at ver tm hk, hr, List.append_assoc]
theorem AtB.len {w wr : World} {ver tm : Int} {rs : List Rec} {k : Nat} {v : Value} {cur : List Int} (h : AtB w wr ver rs k tm v cur) (ha : rs.all ROk.okR = true) (hl : rs.length ≤ 40) : cur.length ≤ 37000 := by
  have h1 := congrArg List.length h.eq
  have h2 := body_le ver rs ha hl
  rw [List.length_append] at h1
  omega
theorem all_at {rs : List Rec} {i : Nat} (hi : i < rs.length) (h : rs.all ROk.okR = true) : ROk.okR (rs.getD i default) = true := by
  rw [List.all_eq_true] at h
  have := h rs[i] (List.getElem_mem hi)
  simpa [hi] using this

/-- The six cells of a record's variable. -/
theorem six_of {w : World} {x tp : Nat} {t : Int} {kd : Bool} {k : ByteArray} {gn : Bool} {v : ByteArray} {hv : Value} (h : w.heap[x]? = some (.cells #[.int .i64 t, .bool kd, .string k, .bool gn, .string v, hv] tp (0, 0))) :
    w.cell? ⟨x, 0, none⟩ = some (.int .i64 t) ∧ w.cell? ⟨x, 1, none⟩ = some (.bool kd) ∧ w.cell? ⟨x, 2, none⟩ = some (.string k) ∧ w.cell? ⟨x, 3, none⟩ = some (.bool gn) ∧ w.cell? ⟨x, 4, none⟩ = some (.string v) ∧ w.cell? ⟨x, 5, none⟩ = some hv :=
  ⟨cell_of_row w _ 0 _ _ (0, 0) h, cell_of_row w _ 1 _ _ (0, 0) h, cell_of_row w _ 2 _ _ (0, 0) h, cell_of_row w _ 3 _ _ (0, 0) h, cell_of_row w _ 4 _ _ (0, 0) h, cell_of_row w _ 5 _ _ (0, 0) h⟩

set_option maxHeartbeats 3200000 in
theorem writeBody_any (v : Value) (rs : List Rec) (ver : Int) (w : World) (lo b : Nat) (hv : RecsAt w lo b v rs) (hb : b ≤ w.heap.size) (hl : rs.length ≤ 40) (ha : rs.all ROk.okR = true) :
    Calls Tryz.prog 98 #[v, .int .i64 ver] w fun e w' => ∃ g cap, e = .returned (.slice (some ⟨g, 0, none⟩) (body ver rs).length cap) ∧ Out w' w.heap.size g cap (body ver rs) ∧ Below w.heap.size w w' := by
  obtain ⟨H, ⟨hn, A, c, rfl, hrow⟩, hh⟩ := hv
  have HR := Seg.hid hrow; have HA := Seg.hid ha; have HH := Seg.hid hh
  clear hrow ha hh
  go_enter Tryz.func98, Tryz.ntmps98
  go_wp2_with fail
  refine (ints_new w.heap.size 0 w.heap.size [] [(rs.length : Int)] (w.alloc _) 3 _ (hsz w _) (by simp) (by simp) (one_in (by omega)) (World.ownsRow_lit w #[] 0 (Nat.le_refl _) (Nat.zero_le _) rfl) (by rw [hsz]; omega)).mono ?_
  rintro e w1 hE
  rw [nums1, List.nil_append] at hE
  obtain ⟨l1, hl1⟩ : ∃ l1, put (rs.length : Int) = l1 := ⟨_, rfl⟩
  have HL1 := Seg.hid hl1
  rw [hl1] at hE
  clear hl1
  obtain ⟨⟨g1, cap1, rfl, o1, h1⟩, gr1⟩ := hE
  have A0 : Hid (AtB w w1 ver rs 0 0 (.slice (some ⟨g1, 0, none⟩) l1.length cap1) l1) := ⟨Nat.zero_le _, ⟨by decide, by decide⟩, ⟨g1, cap1, rfl, o1⟩, (by rw [← HL1.out]; rfl), (below1 w _).grown gr1 (by rw [hsz]; omega) (fun k hk => by cases hk; exact Nat.le_refl _)⟩
  clear o1 h1 gr1
  go_wp2
  go_loopw [5, 6, 16] (fun v t i wr => ∃ (k : Nat) (tm : Int) (cur : List Int), i = .int .i64 k ∧ t = .int .i64 tm ∧ AtB w wr ver rs k tm v cur) (fun _ _ i _ => rs.length - (intOf i).toNat)
  case atStart => exact ⟨0, 0, l1, rfl, rfl, A0.out⟩
  case round =>
    clear A0
    obtain ⟨k, tm, cur, rfl, rfl, P⟩ := hrel
    have HP := Seg.hid P
    have hcl := P.len HA.out hl
    have hle := P.le
    obtain ⟨tl0, tl1⟩ := P.tl
    obtain ⟨g2, cap2, rfl, o2⟩ := P.ou
    have O2 := Seg.hid o2
    have hg2 := (out_lt o2).1
    have hbl := P.bl.size
    clear P o2
    by_cases hlt : k < rs.length
    · obtain ⟨gr, o, rfl, hgr, hc, hcell, _⟩ := HR.out.resolve_left (by omega)
      obtain ⟨c0, c1, c2, c3, c4, c5⟩ := RecsW.six (RecsW.six' hcell HP.out.bl (by omega)) k hlt
      have HHk := Seg.hid (HH.out k hlt)
      obtain ⟨_, Ah, ch, hHe, _⟩ := HH.out k hlt
      rw [hHe] at c5 HHk
      have OK := Seg.hid (all_at hlt HA.out)
      obtain ⟨r, hr⟩ : ∃ r, rs.getD k default = r := ⟨_, rfl⟩
      have HRk := Seg.hid hr
      rw [hr] at c0 c1 c2 c3 c4 c5 HHk OK
      obtain ⟨q1, q2, q3, q4, q5, q6⟩ := okR_parts OK.out
      have Q6 := Seg.hid q6
      have h0 : (0 : Int) ≤ (k : Int) := by omega
      have h1 : (k : Int) < (rs.length : Int) := by omega
      clear hcell hr hHe q6
      have d1 := WrP.put_le (r.time - tm) (by omega)
      have d2 := WrP.txtIf_le r.keyed r.key q3
      have d3 := WrP.txtIf_le (!r.gone) r.val q4
      go_wp2_with fail
      refine (ints_new g2 cap2 w.heap.size cur [r.time - tm] (wr.alloc _) 3 _ (hsz wr _) (by simp) (by omega) (one_in (by omega)) (World.ownsRow.alloc O2.out _) (by rw [hsz]; omega)).mono ?_
      rintro e w3 hE
      rw [nums1] at hE
      obtain ⟨l3, hl3⟩ : ∃ l3, cur ++ put (r.time - tm) = l3 := ⟨_, rfl⟩
      have hl3l : l3.length ≤ 38000 := by rw [← hl3, List.length_append]; omega
      rw [hl3] at hE
      have HL3 := Seg.hid hl3
      obtain ⟨g3, cap3, rfl, m3⟩ := (Mid.start O2.out).step hE
      have M3 := Seg.hid m3
      have s3 := m3.size
      obtain ⟨e0, e1, e2, e3, e4, e5⟩ := six_of m3.var
      clear m3 hE hl3
      go_wp2_with fail
      refine (putTextIf_any g3 cap3 w.heap.size l3 r.keyed r.key w3 (by omega) (by omega) M3.out.out (by omega)).mono ?_
      rintro e w4 hE
      obtain ⟨l4, hl4⟩ : ∃ l4, l3 ++ txtIf r.keyed r.key = l4 := ⟨_, rfl⟩
      have hl4l : l4.length ≤ 38200 := by rw [← hl4, List.length_append]; omega
      rw [hl4] at hE
      have HL4 := Seg.hid hl4
      obtain ⟨g4, cap4, rfl, m4⟩ := M3.out.step hE
      have M4 := Seg.hid m4
      have s4 := m4.size
      clear e0 e1 e2 e3 e4 e5
      obtain ⟨e0, e1, e2, e3, e4, e5⟩ := six_of m4.var
      clear m4 hE hl4
      go_wp2_with fail
      refine (putTextIf_any g4 cap4 w.heap.size l4 (!r.gone) r.val w4 (by omega) (by omega) M4.out.out (by omega)).mono ?_
      rintro e w5 hE
      obtain ⟨l5, hl5⟩ : ∃ l5, l4 ++ txtIf (!r.gone) r.val = l5 := ⟨_, rfl⟩
      have hl5l : l5.length ≤ 38400 := by rw [← hl5, List.length_append]; omega
      rw [hl5] at hE
      have HL5 := Seg.hid hl5
      obtain ⟨g5, cap5, rfl, m5⟩ := M4.out.step hE
      have M5 := Seg.hid m5
      have s5 := m5.size
      clear e0 e1 e2 e3 e4 e5
      obtain ⟨e0, e1, e2, e3, e4, e5⟩ := six_of m5.var
      clear m5 hE hl5
      by_cases hv2 : ver = 2
      · have ht2 : (ver == 2) = true := by simp [hv2]
        have HF : Hid (l5 ++ hds r.heads = cur ++ rec1 ver tm r) := by
          show _ = _
          rw [← HL5.out, ← HL4.out, ← HL3.out, rec1, hdsV, if_pos hv2]
          simp only [List.append_assoc]
        clear hv2
        go_wp2_with fail
        refine (putHeads_any g5 cap5 w.heap.size lo b l5 _ r.heads w5 (by omega) (by omega) Q6.out (HHk.out.below ((M5.out.below HP.out.bl hg2).mono hb)) hb M5.out.out (by omega)).mono ?_
        rintro e w6 hE
        rw [HF.out] at hE
        obtain ⟨g6, cap6, rfl, m6⟩ := M5.out.step hE
        have N6 := Seg.hid (fun n hn => AtB.next (n := n) HP.out hlt HRk.out OK.out hg2 m6 hn)
        clear m6 hE
        go_wp2
        go_roundw
        case rel => exact ⟨k + 1, r.time, _, by go_num, rfl, N6.out _ (by simp)⟩
        case measure => simp [intOf]; omega
      · have ht2 : (ver == 2) = false := by simp [hv2]
        have HF : Hid (l5 = cur ++ rec1 ver tm r) := by
          show _ = _
          rw [← HL5.out, ← HL4.out, ← HL3.out, rec1, hdsV, if_neg hv2]
          simp only [List.append_assoc, List.append_nil]
        clear hv2
        have N6 : Hid (AtB w w5 ver rs (k + 1) r.time (.slice (some ⟨g5, 0, none⟩) l5.length cap5) (cur ++ rec1 ver tm r)) := AtB.next HP.out hlt HRk.out OK.out hg2 (HF.out ▸ M5.out) (by rw [HF.out])
        go_wp2
        go_roundw
        case rel => exact ⟨k + 1, r.time, _, by go_num, rfl, N6.out⟩
        case measure => simp [intOf]; omega
    · obtain rfl : k = rs.length := by omega
      have HE : Hid (cur = body ver rs) := by
        have := HP.out.eq
        rw [List.drop_length, recs, List.append_nil] at this
        exact this
      go_wp2
      go_ret
      exact ⟨g2, cap2, by rw [← HE.out]; rfl, HE.out ▸ O2.out, HP.out.bl⟩
end Go.Proofs.YtoplbemolnpngaaGreat.WrB
namespace Go.Proofs.YtoplbemolnpngaaGreat.Chk
set_option maxRecDepth 8000
open Go.RowKit
set_option linter.unusedVariables false

/-- How far the check is: j bytes are taken. -/
structure Upto (l : List Int) (j c : Nat) : Prop where
  lt : c < 4294967296
  eq : c = (l.take j).foldl Crc.upd 4294967295
theorem Upto.start (l : List Int) : Upto l 0 4294967295 := ⟨by decide, by simp⟩
theorem Upto.next {l : List Int} {j c : Nat} (h : Upto l j c) (hj : j < l.length) (x : Nat) (hx : l.getD j 0 = (x : Int)) (hx2 : x < 256) : Upto l (j + 1) (Crc.steps 8 (c ^^^ x)) := by
  have hg : l[j] = (x : Int) := by simpa [hj] using hx
  refine ⟨Crc.steps_lt (Crc.xor_lt h.lt (by omega)) 8, ?_⟩
  rw [List.take_succ_eq_append_getElem hj, List.foldl_append, ← h.eq, hg]
  simp [Crc.upd]
theorem Upto.done {l : List Int} {j c : Nat} (h : Upto l j c) (hj : l.length ≤ j) : c = Crc.crc l := by
  rw [h.eq, List.take_of_length_le hj]; rfl

theorem odd_step {z : Nat} (hz : z < 4294967296) (h : (((z : Int) % 2 == 1) = true)) : bits .xor .u32 ((z : Int) / 2) 3988292384 = ((Crc.step z : Nat) : Int) := by
  have := eq_of_beq h
  rw [Crc.step_odd (by omega), ← Crc.u32_xor _ _ (by omega) Crc.poly_lt, Int.natCast_ediv]
  rfl
theorem even_step {z : Nat} (h : (((z : Int) % 2 == 1) = false)) : (z : Int) / 2 = ((Crc.step z : Nat) : Int) := by
  have := ne_of_beq_false h
  rw [Crc.step_even (by omega)]; omega
/-- k steps of a number. -/
structure After (z0 k z : Nat) : Prop where
  lt : z < 4294967296
  eq : z = Crc.steps k z0
theorem After.start {z : Nat} (h : z < 4294967296) : After z 0 z := ⟨h, rfl⟩
theorem After.next {z0 k z : Nat} (h : After z0 k z) : After z0 (k + 1) (Crc.step z) := ⟨Crc.step_lt h.lt, by rw [h.eq]; rfl⟩

set_option maxRecDepth 4000 in
set_option maxHeartbeats 800000 in
theorem spec_core (g o n c : Nat) (l : List Int) (w : World) (hn : n ≤ 140737488355328) (hc1 : n ≤ c) (hl : l.length = n)
    (hcell : ∀ i, i < n → w.cell? ⟨g, o + i, none⟩ = some (.int .u8 (l.getD i 0))) (hby : Seg.Byt l) :
    Calls Tryz.prog 64 #[.slice (some ⟨g, o, none⟩) n c] w fun e w' => e = .returned (.int .i64 (Crc.check l)) ∧ w = w' := by
  have HC := Seg.hid hcell
  have HL := Seg.hid hl
  have HY := Seg.hid hby
  clear hcell hl hby
  go_enter Tryz.func64, Tryz.ntmps64
  go_wp2
  go_loop [3, 4, 5, 6] (fun c i _ _ => ∃ j m : Nat, j ≤ n ∧ i = .int .i64 j ∧ c = .int .u32 m ∧ Upto l j m) (fun _ i _ _ => n - (intOf i).toNat)
  case atStart => exact ⟨0, 4294967295, Nat.zero_le _, rfl, rfl, Upto.start l⟩
  case round =>
    obtain ⟨j, m, hj, rfl, rfl, HU⟩ := hrel
    by_cases hlt : j < n
    · obtain ⟨x, HX, hx⟩ : ∃ x : Nat, Hid (l.getD j 0 = (x : Int)) ∧ x < 256 := ⟨(l.getD j 0).toNat, by show _ = _; have := HY.out j; omega, by have := HY.out j; omega⟩
      have hc : w.cell? ⟨g, o + j, none⟩ = some (.int .u8 (x : Int)) := by rw [HC.out j hlt, HX.out]
      have hxx := Crc.u32_xor m x HU.lt (by omega)
      have HN := Seg.hid (HU.next (by rw [HL.out]; exact hlt) x HX.out hx)
      have HZ : Hid (m ^^^ x < 4294967296) := Crc.xor_lt HU.lt (by omega)
      obtain ⟨z0, hz0⟩ : ∃ z0, z0 = m ^^^ x := ⟨_, rfl⟩
      rw [← hz0] at hxx HN HZ
      clear HU hz0
      go_wp2
      go_loop [3, 5, 6] (fun c i _ => ∃ k z : Nat, k ≤ 8 ∧ i = .int .i64 k ∧ c = .int .u32 z ∧ After z0 k z) (fun _ i _ => 8 - (intOf i).toNat)
      case atStart => exact ⟨0, z0, Nat.zero_le _, rfl, rfl, After.start HZ.out⟩
      case round =>
        clear hxx
        obtain ⟨k, z, hk, rfl, rfl, HA⟩ := hrel
        by_cases hk8 : k < 8
        · have hz := HA.lt
          have HA2 := Seg.hid HA.next
          cases hodd : ((z : Int) % 2 == 1) with
          | true =>
            have hst := odd_step hz hodd
            clear HA
            go_wp2
            go_round
            case rel => exact ⟨k + 1, Crc.step z, by omega, by go_num, rfl, HA2.out⟩
            case measure => simp [intOf]; omega
          | false =>
            have hst := even_step hodd
            clear HA
            go_wp2
            go_round
            case rel => exact ⟨k + 1, Crc.step z, by omega, by go_num, rfl, HA2.out⟩
            case measure => simp [intOf]; omega
        · have hk' : k = 8 := by omega
          have HF : Hid (Upto l (j + 1) z) := by
            show Upto l (j + 1) z
            rw [HA.eq, hk']; exact HN.out
          clear HA hk' HN
          go_wp2
          go_round
          case rel => exact ⟨j + 1, z, by omega, by go_num, rfl, HF.out⟩
          case measure => simp [intOf]; omega
    · have hlen : Hid (l.length ≤ j) := (by show _ ≤ _; rw [HL.out]; omega)
      have hx : bits .xor .u32 (m : Int) 4294967295 = ((m ^^^ 4294967295 : Nat) : Int) := Crc.u32_xor m 4294967295 HU.lt (by decide)
      have hlt2 := Crc.xor_lt HU.lt (show 4294967295 < 4294967296 by decide)
      have HE : Hid (((m ^^^ 4294967295 : Nat) : Int) = Crc.check l) := (by show _ = _; rw [HU.done hlen.out]; rfl)
      obtain ⟨r, hr⟩ : ∃ r, r = m ^^^ 4294967295 := ⟨_, rfl⟩
      rw [← hr] at hx hlt2 HE
      clear HU hr
      go_wp2
      go_ret
      exact ⟨Seg.ret_int HE.out, rfl⟩
end Go.Proofs.YtoplbemolnpngaaGreat.Chk
namespace Go.Proofs.YtoplbemolnpngaaGreat.Tab
set_option maxRecDepth 8000
open Go.RowKit
open Chk (After)
set_option linter.unusedVariables false
/-- The table when i places are filled. -/
def arr (i : Nat) : Array Value := ((List.range 16).map fun (j : Nat) => Value.int .u32 (if j < i then ((Crc.steps 4 j : Nat) : Int) else 0)).toArray
theorem arr_size (i : Nat) : (arr i).size = 16 := by simp [arr]
theorem arr_get (i j : Nat) (h : j < 16) : (arr i)[j]? = some (Value.int .u32 (if j < i then ((Crc.steps 4 j : Nat) : Int) else 0)) := by simp [arr, h]
theorem arr_set (i : Nat) (h : i < 16) : (arr i).setIfInBounds i (.int .u32 ((Crc.steps 4 i : Nat) : Int)) = arr (i + 1) := by
  apply Array.ext_getElem?
  intro j
  by_cases hj : j < 16
  · rw [arr_get (i + 1) j hj, Array.getElem?_setIfInBounds]
    by_cases e : i = j
    · subst e
      simp [arr_size, h]
    · rw [if_neg e, arr_get i j hj]
      by_cases h1 : j < i
      · simp [h1, show j < i + 1 by omega]
      · simp [h1, show ¬ j < i + 1 by omega]
  · rw [Array.getElem?_eq_none (by simp [arr_size]; omega), Array.getElem?_eq_none (by simp [arr_size]; omega)]
theorem arr_zero : arr 0 = #[.int .u32 0, .int .u32 0, .int .u32 0, .int .u32 0, .int .u32 0, .int .u32 0, .int .u32 0, .int .u32 0, .int .u32 0, .int .u32 0, .int .u32 0, .int .u32 0, .int .u32 0, .int .u32 0, .int .u32 0, .int .u32 0] := rfl
theorem arr_one (i : Nat) : (arr i).all (·.oneCell') = true := by
  simp [arr, Value.oneCell']
def setA (cs : Array Value) : Nat → List Value → Array Value
  | _, [] => cs
  | o, v :: r => setA (cs.setIfInBounds o v) (o + 1) r
theorem heap_setCells (g : Nat) (t : TypeId) : ∀ (vs : List Value) (o : Nat) (cs : Array Value) (w : World), w.heap[g]? = some (.cells cs t (0, 0)) → (w.setCells g o vs).heap[g]? = some (.cells (setA cs o vs) t (0, 0))
  | [], _, _, _, h => h
  | v :: r, o, cs, w, h => heap_setCells g t r (o + 1) _ _ (heap_setCell_same w g o cs t v h)
theorem setA_size : ∀ (vs : List Value) (o : Nat) (cs : Array Value), (setA cs o vs).size = cs.size
  | [], _, _ => rfl
  | v :: r, o, cs => by rw [setA, setA_size r]; simp
theorem setA_low : ∀ (vs : List Value) (o : Nat) (cs : Array Value) (j : Nat), j < o → (setA cs o vs)[j]? = cs[j]?
  | [], _, _, _, _ => rfl
  | v :: r, o, cs, j, h => by rw [setA, setA_low r _ _ _ (by omega), Array.getElem?_setIfInBounds_ne (by omega)]
theorem setA_in : ∀ (vs : List Value) (o : Nat) (cs : Array Value) (j : Nat), j < vs.length → o + vs.length ≤ cs.size → (setA cs o vs)[o + j]? = vs[j]?
  | v :: r, o, cs, 0, _, hs => by
    rw [setA, setA_low r _ _ _ (by omega)]
    simp at hs
    simp [show o < cs.size by omega]
  | v :: r, o, cs, j + 1, h, hs => by
    simp at h hs
    rw [setA, show o + (j + 1) = (o + 1) + j by omega, setA_in r (o + 1) _ j h (by simp; omega)]
    simp
theorem setA_all (z : Array Value) (hz : z.size = 16) (i : Nat) : setA z 0 (arr i).toList = arr i := by
  apply Array.ext_getElem?
  intro j
  by_cases hj : j < 16
  · have := setA_in (arr i).toList 0 z j (by simp [arr_size]; omega) (by simp [arr_size]; omega)
    rw [Nat.zero_add] at this
    rw [this]; simp
  · rw [Array.getElem?_eq_none (by rw [setA_size]; omega), Array.getElem?_eq_none (by rw [arr_size]; omega)]
theorem below_setCells {B g : Nat} (hg : B ≤ g) : ∀ (vs : List Value) (o : Nat) (a w : World), Below B a w → Below B a (w.setCells g o vs)
  | [], _, _, _, h => h
  | v :: r, o, a, w, h => below_setCells hg r (o + 1) a _ (h.setCell hg v)
theorem there_of {w : World} {g t : Nat} {cs : Array Value} (h : w.heap[g]? = some (.cells cs t (0, 0))) : w.there g 0 cs.size := fun j hj => by
  rw [Nat.zero_add, cell_of_row w g j cs t (0, 0) h, frozen_of_row w g j cs t h]
  exact ⟨by simp [hj], rfl⟩
theorem info37 : (Tryz.prog.info? 137).map (·.size) = some 16 := by kernel_rfl

set_option maxRecDepth 4000 in
set_option maxHeartbeats 800000 in
theorem table_any (w : World) : Calls Tryz.prog 112 #[] w fun e w' => e = .returned (.agg (arr 16)) ∧ Below w.heap.size w w' := by
  go_enter Tryz.func112, Tryz.ntmps112
  go_wp2
  rw [← arr_zero]
  go_loopw [2, 3, 4, 5, 10] (fun _ _ _ i _ wr => ∃ j : Nat, j ≤ 16 ∧ i = .int .i64 j ∧ wr.heap[w.heap.size]? = some (.cells (arr 0) 137 (0, 0)) ∧ wr.heap[w.heap.size + 1]? = some (.cells (arr j) 137 (0, 0)) ∧ Below w.heap.size w wr) (fun _ _ _ i _ _ => 16 - (intOf i).toNat)
  case atStart => exact ⟨0, by omega, rfl, heap_alloc2_old _ _ _, heap_alloc2_new _ _ _, ((Below.refl _ _).alloc (Nat.le_refl _) _).alloc (by simp) _⟩
  case round =>
    obtain ⟨j, hj, rfl, h0, h1, hb⟩ := hrel
    by_cases hlt : j < 16
    · have hc := cell_of_row wr (w.heap.size + 1) j _ _ _ h1
      rw [arr_get j j hlt] at hc
      have hf := frozen_of_row wr (w.heap.size + 1) j _ _ h1
      have H0 := Seg.hid h0; have H1 := Seg.hid h1; have HB := Seg.hid hb
      clear h0 h1 hb
      go_wp2
      go_loop [3, 4, 10] (fun c _ i => ∃ k z : Nat, k ≤ 4 ∧ i = .int .i64 k ∧ c = .int .u32 z ∧ After j k z) (fun _ _ i => 4 - (intOf i).toNat)
      case atStart => exact ⟨0, j, by omega, rfl, rfl, After.start (by omega)⟩
      case round =>
        obtain ⟨k, z, hk, rfl, rfl, HA⟩ := hrel
        by_cases hk4 : k < 4
        · have hz := HA.lt
          have HA2 := Seg.hid HA.next
          cases hodd : ((z : Int) % 2 == 1) with
          | true =>
            have hst := Chk.odd_step hz hodd
            clear HA
            go_wp2
            go_round
            case rel => exact ⟨k + 1, Crc.step z, by omega, by go_num, rfl, HA2.out⟩
            case measure => simp [intOf]; omega
          | false =>
            have hst := Chk.even_step hodd
            clear HA
            go_wp2
            go_round
            case rel => exact ⟨k + 1, Crc.step z, by omega, by go_num, rfl, HA2.out⟩
            case measure => simp [intOf]; omega
        · obtain rfl : k = 4 := by omega
          have hz : z = Crc.steps 4 j := HA.eq
          have N0 : Hid ((wr.setCell ⟨w.heap.size + 1, j, none⟩ (.int .u32 (z : Int))).heap[w.heap.size]? = some (.cells (arr 0) 137 (0, 0))) := (by
            show _ = _
            rw [heap_setCell_other _ _ _ _ (by simp)]; exact H0.out)
          have N1 : Hid ((wr.setCell ⟨w.heap.size + 1, j, none⟩ (.int .u32 (z : Int))).heap[w.heap.size + 1]? = some (.cells (arr (j + 1)) 137 (0, 0))) := (by
            show _ = _
            rw [heap_setCell_same wr _ j _ _ _ H1.out, hz, arr_set j hlt])
          have NB : Hid (Below w.heap.size w (wr.setCell ⟨w.heap.size + 1, j, none⟩ (.int .u32 (z : Int)))) := HB.out.setCell (by simp) _
          clear HA hz
          go_wp2
          go_roundw
          case rel => exact ⟨j + 1, by omega, by go_num, N0.out, N1.out, NB.out⟩
          case measure => simp [intOf]; omega
    · obtain rfl : j = 16 := by omega
      have HT := Seg.hid (there_of h0)
      have HS := Seg.hid (heap_setCells w.heap.size 137 (arr 16).toList 0 _ _ h0)
      rw [setA_all _ (arr_size 0)] at HS
      have NB := Seg.hid (below_setCells (g := w.heap.size) (Nat.le_refl _) (arr 16).toList 0 _ _ hb)
      have H1 := Seg.hid h1
      clear h0 h1 hb
      go_wp2_with (first | (refine wpList_load_row rfl 137 _ rfl (w.heap.size + 1) rfl _ _ _ _ H1.out Tryz.underlying137 rfl (by rw [arr_size]; exact info37) ?_) | (refine wpList_store_mid rfl 137 _ _ rfl w.heap.size 0 (arr 16) rfl rfl (by rw [arr_size]; rw [arr_size] at HT; exact HT.out) (by rw [arr_size]; exact info37) (arr_one _) ?_))
      exact bodyPost_ret (v := .agg (arr 16)) (results_cell_row rfl _ _ w.heap.size _ _ _ _ rfl HS.out Tryz.underlying137 rfl (by rw [arr_size]; exact info37)) rfl ⟨rfl, NB.out⟩
end Go.Proofs.YtoplbemolnpngaaGreat.Tab
