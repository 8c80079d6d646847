/- The finder's note; The finder's way through the places, from the nearest on. -/
import Derived.Maps.AppendAt
import Derived.Test.YtoplbemolnpngaaGreatJP19
import Derived.Test.YtoplbemolnpngaaGreatJP18
namespace Go.Proofs.YtoplbemolnpngaaGreat.SqN
set_option maxRecDepth 8000
open Go.RowKit Go.ChangeShapes Go.WideShapes
open SqM SqK SqG
set_option linter.unusedVariables false
theorem infoI : (Tryz.prog.info? 3).map (fun i => (i.zero, i.size, i.bytes)) = some (some (.int .i64 0), 1, 8) := by kernel_rfl
/-- The finder lies in its own block. -/
def Par (wr : World) (p g o n c M : Nat) : Prop := wr.heap[p]? = some (.cells #[.slice (some ⟨g, o, none⟩) n c, .map (some M)] 130 (0, 0))
theorem Par.no {wr : World} {p g o n c M : Nat} (h : Par wr p g o n c M) : NoRow wr p := fun cur fr e => by rw [h] at e; simp at e
theorem Par.lt {wr : World} {p g o n c M : Nat} (h : Par wr p g o n c M) : p < wr.heap.size := (Array.getElem?_eq_some_iff.1 h).1
theorem Par.cells {wr : World} {p g o n c M : Nat} (h : Par wr p g o n c M) : wr.cell? ⟨p, 0, none⟩ = some (.slice (some ⟨g, o, none⟩) n c) ∧ wr.cell? ⟨p, 1, none⟩ = some (.map (some M)) := ⟨cell_of_row wr p 0 _ _ (0, 0) h, cell_of_row wr p 1 _ _ (0, 0) h⟩
theorem Par.kept {w w' : World} {p g o n c M : Nat} (h : Par w p g o n c M) (hk : Kept w w' M) (hp : p ≠ M) : Par w' p g o n c M := (hk.block p h.lt hp (.inr h.no)).trans h

/-- i places are noted. -/
structure Noted (w wr : World) (g o c M : Nat) (l : List Int) (i : Nat) : Prop where
  grp : Grp wr M l (min i (l.length - 3))
  kept : Kept w wr M
  par : Par wr w.heap.size g o l.length c M
theorem Noted.next {w wr w2 : World} {g o c M i : Nat} {l : List Int} {D : DataW Unit} {kl : Lit} {v v' : Value} {zs : List Int} (h : Noted w wr g o c M l i) (hi : i + 4 ≤ l.length) (hM : M < w.heap.size) (hk : Kept wr w2 M) (hkl : keyOf Tryz.prog 133 (.agg (k4 l i)) = some kl)
    (hD : ∀ j, j + 4 ≤ l.length → ∃ kl, keyOf Tryz.prog 133 (.agg (k4 l j)) = some kl ∧ Reads D kl (posI l i j)) (hIs : Maps.IsMap D) {w0 : World} {base : Nat} (hoi : w0.ownsInts base 3 .i64 v zs) (hat : D.atKey kl .nil = rowDatum .i64 v zs)
    (ho' : w2.ownsInts (M + 1) 3 .i64 v' (zs ++ [(i : Int)])) (ho : w2.ownsGroups Tryz.prog 133 (M + 1) 3 .i64 M (i + 1) (D.put kl (rowDatum .i64 v' (zs ++ [(i : Int)])))) : Noted w w2 g o c M l (i + 1) := by
  have hzs : zs = posI l i i := by
    obtain ⟨kl', h1, h2⟩ := hD i hi
    rw [hkl] at h1
    obtain rfl := Option.some.inj h1
    exact reads_eq h2 hat hoi
  refine ⟨?_, h.kept.trans hk, h.par.kept hk (by omega)⟩
  rw [show min (i + 1) (l.length - 3) = i + 1 by omega]
  rw [ho'.datum_pos (by simp), hzs] at ho
  exact ⟨⟨_, ho, reads_step hIs hkl hD⟩⟩
theorem isMap_of {w : World} {k base e b n : Nat} {D : DataW Unit} (h : w.ownsGroups Tryz.prog k base e .i64 b n D) : Maps.IsMap D := by
  obtain ⟨es, clock, _, _, _, rfl, _⟩ := h
  exact ⟨_, rfl⟩

theorem og_below {w w' : World} {k base e b n : Nat} {D : DataW Unit} (h : w.ownsGroups Tryz.prog k base e .i64 b n D) (hb : Below w.heap.size w w') : w'.ownsGroups Tryz.prog k base e .i64 b n D :=
  h.kept (grown_of_below hb) (by simp) (fun es clock _ x _ => by cases x.val.ownBlock <;> simp)
theorem one_kept (w1 : World) {w3 : World} (ob : Obj) (v : Int) {M : Nat} {t : TypeId} (hg : ((w1.alloc ob).alloc (.cells #[.int .i64 v] t)).grownBy w3 (some M)) (hM : M ≠ w1.heap.size + 1) : ∀ j u, [Value.int .i64 v][j]? = some u → w3.cell? ((⟨w1.heap.size + 1, 0, none⟩ : Addr).add j) = some u := fun j u hj => by
  have h := cell_one_new (w1.alloc ob) (.int .i64 v) t j u hj
  rw [show (w1.alloc ob).heap.size = w1.heap.size + 1 by simp] at h
  exact hg.cell h (by unfold Addr.add; split <;> simpa using fun e => hM e.symm)
theorem kept_ints {w w' : World} {M : Nat} {v : Value} {zs : List Int} (h : w.ownsInts (M + 1) 3 .i64 v zs) (hg : w.grownBy w' (some M)) : w'.ownsInts (M + 1) 3 .i64 v zs := by
  refine h.kept hg ?_
  cases hu : v.ownBlock with
  | none => exact .inl rfl
  | some g =>
    refine .inr fun e1 => ?_
    have := (h.1.lt g hu).1
    cases e1
    omega

set_option maxRecDepth 4000 in
set_option maxHeartbeats 1600000 in
theorem note_any (g o c M at_ cnt : Nat) (l : List Int) (w : World) (hl : l.length ≤ 60000) (hc : l.length ≤ c) (hg : g < w.heap.size) (hgM : g ≠ M) (hgn : g < M ∨ NoRow w g) (hat : at_ + cnt ≤ l.length)
    (ha : ∀ i, i < l.length → w.cell? ⟨g, o + i, none⟩ = some (.int .u8 (l.getD i 0))) (hG : Grp w M l (min at_ (l.length - 3))) :
    Calls Tryz.prog 105 #[fv g o l.length c M, .int .i64 at_, .int .i64 cnt] w fun e w' => e = .returned (.tuple #[]) ∧ Grp w' M l (min (at_ + cnt) (l.length - 3)) ∧ Kept w w' M := by
  obtain ⟨i0, hi, hz0, hz1, hz2⟩ := info_parts infoI
  have HA := Seg.hid ha
  have hM := hG.lt
  have HN0 : Hid (Noted w (w.alloc (.cells #[.slice (some ⟨g, o, none⟩) l.length c, .map (some M)] 130)) g o c M l at_) := ⟨hG.below ((Below.refl _ _).alloc (Nat.le_refl _) _), (Kept.refl w M).below ((Below.refl _ _).alloc (Nat.le_refl _) _), heap_alloc_new _ _⟩
  clear ha hG
  unfold fv
  go_enter Tryz.func105, Tryz.ntmps105
  by_cases hend : (at_ : Int) + (cnt : Int) ≤ (l.length : Int) - 4 + 1
  · go_wp2_with fail
    go_loopw [7, 8] (fun x _ wr => ∃ i : Nat, x = .int .i64 i ∧ at_ ≤ i ∧ i ≤ at_ + cnt ∧ Noted w wr g o c M l i) (fun x _ _ => l.length - (intOf x).toNat)
    case atStart => exact ⟨at_, rfl, Nat.le_refl _, by omega, HN0.out⟩
    case round =>
      clear HN0
      obtain ⟨i, rfl, h1, h2, NT⟩ := hrel
      have HN := Seg.hid NT
      by_cases hlt : i < at_ + cnt
      · have f0 : (i : Int) < (at_ : Int) + (cnt : Int) := by omega
        obtain ⟨p0, p1⟩ := NT.par.cells
        have hpl := NT.par.lt
        clear NT
        have hi4 : i + 4 ≤ l.length := by omega
        have hcell : Hid (∀ j, j < l.length → wr.cell? ⟨g, o + j, none⟩ = some (.int .u8 (l.getD j 0))) := fun j hj => by
          rw [World.cell?_of_block (w := w) (a := ⟨g, o + j, none⟩) (HN.out.kept.block g hg hgM hgn)]; exact HA.out j hj
        have hgr : g < wr.heap.size := Nat.lt_of_lt_of_le hg HN.out.kept.size
        go_wp2_with fail
        refine (key_any g o c M i l wr hl hc hgr hi4 hcell.out).mono ?_
        rintro e w1 ⟨rfl, b1⟩
        obtain ⟨D, hOG, hD⟩ := HN.out.grp.own
        rw [show min i (l.length - 3) = i by omega] at hOG hD
        obtain ⟨kl, hkl, _⟩ := hD i hi4
        have HKL := Seg.hid hkl
        obtain ⟨x0, x1, x2, x3, hx4⟩ : ∃ x0 x1 x2 x3 : Int, k4 l i = #[.int .u8 x0, .int .u8 x1, .int .u8 x2, .int .u8 x3] := ⟨_, _, _, _, rfl⟩
        rw [hx4] at hkl ⊢
        have q1 : w1.cell? ⟨w.heap.size, 1, none⟩ = some (.map (some M)) := by rw [b1.cell (p := ⟨w.heap.size, 1, none⟩) hpl]; exact p1
        have hpl1 : w.heap.size < w1.heap.size := Nat.lt_of_lt_of_le hpl b1.size
        have HOG := Seg.hid hOG; have HD := Seg.hid hD; have B1 := Seg.hid b1
        have hIM := Seg.hid (isMap_of hOG)
        clear p0 p1 hOG hD b1
        have WB : Hid (Below wr.heap.size wr ((w1.alloc (.cells #[.int .u8 x0, .int .u8 x1, .int .u8 x2, .int .u8 x3] 133)).alloc (.cells #[.int .i64 (i : Int)] 3))) := (B1.out.alloc B1.out.size _).alloc (Nat.le_trans B1.out.size (by simp)) _
        have OG := Seg.hid (og_below HOG.out WB.out)
        have hMw : M < wr.heap.size := HN.out.grp.lt
        have hMl : M < w1.heap.size := Nat.lt_of_lt_of_le hMw B1.out.size
        go_wp2_with (first | (refine SqE.wpList_entry rfl (.tmp 28) (.tmp 29) rfl law OG.out Tryz.underlying128 zeroI ?hn rfl rfl hkl ?_; (case hn => unfold maxLen; omega); intro v zs st w3 hat' hoi hzl hg1 hsh hback; have NW := Seg.hid (one_kept w1 _ (i : Int) hg1 (by omega)); have hsz3 := hg1.size) | (at_builtin; refine wpList_append_own_at _ rfl (.tmp 30) (.tmp 32) 97 rfl (M + 1) 3 i0 (.int .i64 0) 1 8 Tryz.underlying97 hi hz0 hz1 hz2 rfl (by decide) v _ _ rfl hoi.1 ⟨w1.heap.size + 1, 0, none⟩ 1 1 [.int .i64 (i : Int)] rfl rfl ?hnw (ints_oneCell .i64 [(i : Int)]) ?h63 ?hby ?hba ?_; (case hnw => exact NW.out); (case h63 => unfold maxLen; omega); (case hby => omega); (case hba => simp at hsz3; omega); intro v' w4 hown' hgrow hnil hloc; obtain ⟨w5, hr5, o5, g5, s5⟩ := hback w4 v' (zs ++ [(i : Int)]) hgrow (hoi.appended hown' (WalkArith.wf_i64 (by omega))) (by simp; omega) (hloc.imp id (fun h => ⟨_, h, hsz3⟩)); have NX := Seg.hid (Noted.next HN.out hi4 hM (((((Kept.refl wr M).below WB.out).map hg1).row hoi hgrow).map g5) HKL.out HD.out hIM.out hoi hat' (kept_ints (hoi.appended hown' (WalkArith.wf_i64 (by omega))) g5) o5); clear hback hat' hsh hgrow hnil hloc o5 g5 s5 hown') | (refine SqE.wpList_stored rfl (.tmp 28) (.tmp 35) (.tmp 34) rfl rfl rfl rfl hr5 ?_))
        go_roundw
        case rel => exact ⟨i + 1, by go_num, by omega, by omega, NX.out⟩
        case measure => simp [intOf]; omega
      · have hie : i = at_ + cnt := by omega
        have f0 : ¬ (i : Int) < (at_ : Int) + (cnt : Int) := by omega
        have HG := Seg.hid (hie ▸ NT.grp : Grp wr M l (min (at_ + cnt) (l.length - 3)))
        have HK := Seg.hid NT.kept
        clear NT HN hie
        go_wp2
        go_end0
        exact ⟨rfl, HG.out, HK.out⟩
  · go_wp2_with fail
    go_loopw [7, 8] (fun x _ wr => ∃ i : Nat, x = .int .i64 i ∧ at_ ≤ i ∧ i ≤ at_ + cnt ∧ Noted w wr g o c M l i) (fun x _ _ => l.length - (intOf x).toNat)
    case atStart => exact ⟨at_, rfl, Nat.le_refl _, by omega, HN0.out⟩
    case round =>
      clear HN0
      obtain ⟨i, rfl, h1, h2, NT⟩ := hrel
      have HN := Seg.hid NT
      by_cases hlt : i + 3 < l.length
      · have f0 : (i : Int) < (l.length : Int) - 4 + 1 := by omega
        obtain ⟨p0, p1⟩ := NT.par.cells
        have hpl := NT.par.lt
        clear NT
        have hi4 : i + 4 ≤ l.length := by omega
        have hcell : Hid (∀ j, j < l.length → wr.cell? ⟨g, o + j, none⟩ = some (.int .u8 (l.getD j 0))) := fun j hj => by
          rw [World.cell?_of_block (w := w) (a := ⟨g, o + j, none⟩) (HN.out.kept.block g hg hgM hgn)]; exact HA.out j hj
        have hgr : g < wr.heap.size := Nat.lt_of_lt_of_le hg HN.out.kept.size
        go_wp2_with fail
        refine (key_any g o c M i l wr hl hc hgr hi4 hcell.out).mono ?_
        rintro e w1 ⟨rfl, b1⟩
        obtain ⟨D, hOG, hD⟩ := HN.out.grp.own
        rw [show min i (l.length - 3) = i by omega] at hOG hD
        obtain ⟨kl, hkl, _⟩ := hD i hi4
        have HKL := Seg.hid hkl
        obtain ⟨x0, x1, x2, x3, hx4⟩ : ∃ x0 x1 x2 x3 : Int, k4 l i = #[.int .u8 x0, .int .u8 x1, .int .u8 x2, .int .u8 x3] := ⟨_, _, _, _, rfl⟩
        rw [hx4] at hkl ⊢
        have q1 : w1.cell? ⟨w.heap.size, 1, none⟩ = some (.map (some M)) := by rw [b1.cell (p := ⟨w.heap.size, 1, none⟩) hpl]; exact p1
        have hpl1 : w.heap.size < w1.heap.size := Nat.lt_of_lt_of_le hpl b1.size
        have HOG := Seg.hid hOG; have HD := Seg.hid hD; have B1 := Seg.hid b1
        have hIM := Seg.hid (isMap_of hOG)
        clear p0 p1 hOG hD b1
        have WB : Hid (Below wr.heap.size wr ((w1.alloc (.cells #[.int .u8 x0, .int .u8 x1, .int .u8 x2, .int .u8 x3] 133)).alloc (.cells #[.int .i64 (i : Int)] 3))) := (B1.out.alloc B1.out.size _).alloc (Nat.le_trans B1.out.size (by simp)) _
        have OG := Seg.hid (og_below HOG.out WB.out)
        have hMw : M < wr.heap.size := HN.out.grp.lt
        have hMl : M < w1.heap.size := Nat.lt_of_lt_of_le hMw B1.out.size
        go_wp2_with (first | (refine SqE.wpList_entry rfl (.tmp 28) (.tmp 29) rfl law OG.out Tryz.underlying128 zeroI ?hn rfl rfl hkl ?_; (case hn => unfold maxLen; omega); intro v zs st w3 hat' hoi hzl hg1 hsh hback; have NW := Seg.hid (one_kept w1 _ (i : Int) hg1 (by omega)); have hsz3 := hg1.size) | (at_builtin; refine wpList_append_own_at _ rfl (.tmp 30) (.tmp 32) 97 rfl (M + 1) 3 i0 (.int .i64 0) 1 8 Tryz.underlying97 hi hz0 hz1 hz2 rfl (by decide) v _ _ rfl hoi.1 ⟨w1.heap.size + 1, 0, none⟩ 1 1 [.int .i64 (i : Int)] rfl rfl ?hnw (ints_oneCell .i64 [(i : Int)]) ?h63 ?hby ?hba ?_; (case hnw => exact NW.out); (case h63 => unfold maxLen; omega); (case hby => omega); (case hba => simp at hsz3; omega); intro v' w4 hown' hgrow hnil hloc; obtain ⟨w5, hr5, o5, g5, s5⟩ := hback w4 v' (zs ++ [(i : Int)]) hgrow (hoi.appended hown' (WalkArith.wf_i64 (by omega))) (by simp; omega) (hloc.imp id (fun h => ⟨_, h, hsz3⟩)); have NX := Seg.hid (Noted.next HN.out hi4 hM (((((Kept.refl wr M).below WB.out).map hg1).row hoi hgrow).map g5) HKL.out HD.out hIM.out hoi hat' (kept_ints (hoi.appended hown' (WalkArith.wf_i64 (by omega))) g5) o5); clear hback hat' hsh hgrow hnil hloc o5 g5 s5 hown') | (refine SqE.wpList_stored rfl (.tmp 28) (.tmp 35) (.tmp 34) rfl rfl rfl rfl hr5 ?_))
        go_roundw
        case rel => exact ⟨i + 1, by go_num, by omega, by omega, NX.out⟩
        case measure => simp [intOf]; omega
      · have hie : min i (l.length - 3) = min (at_ + cnt) (l.length - 3) := by omega
        have f0 : ¬ (i : Int) < (l.length : Int) - 4 + 1 := by omega
        have HG := Seg.hid (hie ▸ NT.grp : Grp wr M l (min (at_ + cnt) (l.length - 3)))
        have HK := Seg.hid NT.kept
        clear NT HN hie
        go_wp2
        go_end0
        exact ⟨rfl, HG.out, HK.out⟩
end Go.Proofs.YtoplbemolnpngaaGreat.SqN
namespace Go.Proofs.YtoplbemolnpngaaGreat.SqM
set_option maxRecDepth 8000
set_option linter.unusedVariables false
theorem pos_sorted (l : List Int) (m at_ : Nat) : (pos l m at_).Pairwise (· < ·) := List.Pairwise.filter _ List.pairwise_lt_range
theorem mem_pos {l : List Int} {m at_ j : Nat} : j ∈ pos l m at_ ↔ j < m ∧ alike l at_ j = true := by simp [pos]
/-- Of the places the last k are still to be asked. -/
structure Inv (l : List Int) (at_ k L d : Nat) : Prop where
  no : d = 0 → L = 0
  is : 0 < d → L = rn l at_ d ∧ 4 ≤ L ∧ d ≤ 4096 ∧ d ≤ at_
  far : ∀ j, j < at_ → alike l at_ j = true → j ∉ (pos l at_ at_).take k → rn l at_ (at_ - j) ≤ L
  near : ∀ e, 0 < e → e < d → rn l at_ e < L
theorem Inv.start (l : List Int) (at_ : Nat) : Inv l at_ (pos l at_ at_).length 0 0 :=
  ⟨fun _ => rfl, fun h => absurd h (by omega), fun j hj ha hn => absurd (by rw [List.take_length]; exact mem_pos.2 ⟨hj, ha⟩) hn, fun e h h' => by omega⟩
theorem take_le {l : List Int} {at_ k p j : Nat} (hk : k < (pos l at_ at_).length) (hp : (pos l at_ at_)[k]? = some p) (hj : j ∈ (pos l at_ at_).take (k + 1)) : j ≤ p := by
  obtain ⟨i, hi, rfl⟩ := List.getElem_of_mem hj
  have hi' : i < k + 1 ∧ i < (pos l at_ at_).length := by rw [List.length_take] at hi; omega
  rw [List.getElem_take]
  obtain ⟨hk', rfl⟩ := List.getElem?_eq_some_iff.1 hp
  rcases Nat.lt_or_ge i k with h | h
  · exact Nat.le_of_lt (List.pairwise_iff_getElem.1 (pos_sorted l at_ at_) i k hi'.2 hk' h)
  · have : i = k := by omega
    subst this
    exact Nat.le_refl _
theorem take_succ_mem {α : Type} {xs : List α} {k : Nat} {p x : α} (hp : xs[k]? = some p) : x ∈ xs.take (k + 1) ↔ x ∈ xs.take k ∨ x = p := by
  rw [List.take_add_one, hp]
  simp
theorem Inv.worse {l : List Int} {at_ k L d p : Nat} (h : Inv l at_ (k + 1) L d) (hp : (pos l at_ at_)[k]? = some p) (hr : rn l at_ (at_ - p) ≤ L) : Inv l at_ k L d :=
  ⟨h.no, h.is, fun j hj ha hn => by
    by_cases he : j = p
    · subst he; exact hr
    · exact h.far j hj ha (fun hm => ((take_succ_mem hp).1 hm).elim hn he), h.near⟩
theorem Inv.better {l : List Int} {at_ k L d p : Nat} (h : Inv l at_ (k + 1) L d) (hl : at_ + 4 ≤ l.length) (hp : (pos l at_ at_)[k]? = some p) (hd : at_ - p ≤ 4096) (hr : L < rn l at_ (at_ - p)) : Inv l at_ k (rn l at_ (at_ - p)) (at_ - p) := by
  have hm := mem_pos.1 (List.mem_of_getElem? hp)
  have h4 : 4 ≤ rn l at_ (at_ - p) := (alike_iff (by omega) hl).2 (by rw [show at_ - (at_ - p) = p by omega]; exact hm.2)
  refine ⟨fun h => by omega, fun _ => ⟨rfl, h4, hd, by omega⟩, fun j hj ha hn => ?_, fun e he1 he2 => ?_⟩
  · by_cases he : j = p
    · subst he; exact Nat.le_refl _
    · have := h.far j hj ha (fun hm => ((take_succ_mem hp).1 hm).elim hn he)
      omega
  · by_cases hr4 : 4 ≤ rn l at_ e
    · have ha := (alike_iff (by omega) hl).1 hr4
      have := h.far (at_ - e) (by omega) ha (fun hm' => by
        have := take_le (List.getElem?_eq_some_iff.1 hp).1 hp hm'
        omega)
      rw [show at_ - (at_ - e) = e by omega] at this
      omega
    · omega
theorem Inv.best {l : List Int} {at_ k L d : Nat} (h : Inv l at_ k L d) (hl : at_ + 4 ≤ l.length) (hf : ∀ j, j < at_ → alike l at_ j = true → at_ - j ≤ 4096 → rn l at_ (at_ - j) ≤ L) : cp l at_ = (L, d) := by
  refine cp_of_best4 ⟨?_, h.no, fun hd => ⟨(h.is hd).1, (h.is hd).2.1⟩, fun e h1 h2 h3 => ?_, h.near⟩
  · rcases Nat.eq_zero_or_pos d with h0 | h0
    · omega
    · have := h.is h0; omega
  · have ha := (alike_iff (by omega) hl).1 h3
    have := hf (at_ - e) (by omega) ha (by omega)
    rwa [show at_ - (at_ - e) = e by omega] at this
theorem Inv.ends {l : List Int} {at_ L d : Nat} (h : Inv l at_ 0 L d) (hl : at_ + 4 ≤ l.length) : cp l at_ = (L, d) := h.best hl (fun j hj ha _ => h.far j hj ha (by simp))
theorem Inv.full {l : List Int} {at_ k L d : Nat} (h : Inv l at_ k L d) (hl : at_ + 4 ≤ l.length) (hL : L = min (l.length - at_) 67) : cp l at_ = (L, d) := h.best hl (fun j hj ha _ => by have := rn_le l at_ (at_ - j); omega)
theorem Inv.breaks {l : List Int} {at_ k L d p : Nat} (h : Inv l at_ (k + 1) L d) (hl : at_ + 4 ≤ l.length) (hp : (pos l at_ at_)[k]? = some p) (hd : 4096 < at_ - p) : cp l at_ = (L, d) := h.best hl (fun j hj ha hj2 => h.far j hj ha (fun hm => by
  have := take_le (List.getElem?_eq_some_iff.1 hp).1 hp hm
  omega))
theorem Inv.lt {l : List Int} {at_ k L d : Nat} (h : Inv l at_ k L d) : L ≤ min (l.length - at_) 67 := by
  rcases Nat.eq_zero_or_pos d with h0 | h0
  · rw [h.no h0]; omega
  · rw [(h.is h0).1]; have := rn_le l at_ d; omega
end Go.Proofs.YtoplbemolnpngaaGreat.SqM
