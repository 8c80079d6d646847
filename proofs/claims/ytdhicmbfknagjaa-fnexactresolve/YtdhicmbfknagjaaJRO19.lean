/- The names of a field, and the program's question whether it is right; The program's SchemaOk. -/
import Derived.Test.YtdhicmbfknagjaaJRO17
import Derived.Test.YtdhicmbfknagjaaJRO18
import Derived.Test.YtdhicmbfknagjaaJRO04
namespace Go.Proofs.Ytdhicmbfknagjaa.ScN
set_option maxRecDepth 8000
open Go.RowKit
open Ls Lp VkP VkR ScP ScM
open Recs (hsz below1 below2 below3 chain chainD)
set_option linter.unusedVariables false
theorem infoS : (Try.prog.info? 9).map (fun i => (i.zero, i.size, i.bytes)) = some (some (.string ⟨#[]⟩), 1, 16) := by kernel_rfl
/-- A row of texts is a list of the call's own. -/
theorem strs_row {w : World} {B n : Nat} {v : Value} {ns : List ByteArray} (h : w.ownsRow B 9 1 v n (ns.map Value.string)) (hl : ns.length ≤ 1048577) : StrsAt w (seg B w.heap.size) v ns := by
  have hn : ns.length = n := by have := h.1; simpa using this
  subst hn
  refine ⟨by omega, ?_⟩
  rcases h.2 with ⟨rfl, h0⟩ | ⟨g, cap, cur, rfl, hb, hg, hnc, hcm, hcs, htake⟩
  · exact ⟨none, 0, by rw [h0], .inl h0⟩
  · refine ⟨_, cap, rfl, .inr ⟨g, 0, fun i _ => .string (ns.getD i default), rfl, ⟨hb, (Array.getElem?_eq_some_iff.1 hg).1⟩, hnc, fun i hi j hj => ?_, fun i hi => rfl⟩⟩
    obtain rfl : j = 0 := by omega
    have hc : cur.toList[i]? = some (.string (ns.getD i default)) := by
      have h2 : (cur.toList.take (ns.length * 1))[i]? = (ns.map Value.string)[i]? := by rw [htake]
      rw [List.getElem?_take_of_lt (by omega)] at h2
      rw [h2]
      simp [hi]
    have hc2 : cur[i]? = some (.string (ns.getD i default)) := by simpa using hc
    show w.cell? ⟨g, 0 + i * 1 + 0, none⟩ = _
    rw [show 0 + i * 1 + 0 = i by omega]
    simp [World.cell?, hg, hc2]
theorem was_news {w w' : World} {S : Nat → Prop} {A : Option Addr} {c : Nat} {us : List ByteArray} (h : StrsAt w S (.slice A us.length c) us) (hS : ∀ g, S g → w'.heap[g]? = w.heap[g]?) : us.length ≠ 0 → ∃ ad, A = some ad ∧ ∀ j u, (us.map Value.string)[j]? = some u → w'.cell? (ad.add j) = some u := fun h0 => by
  obtain ⟨hn, A', c', e, h⟩ := h
  cases e
  obtain ⟨g, o, F, rfl, hg, hc, hcell, hel⟩ := h.resolve_left h0
  refine ⟨_, rfl, fun j u hu => ?_⟩
  have hj : j < us.length := by
    have := (List.getElem?_eq_some_iff.1 hu).1
    simpa using this
  have e : F j 0 = .string (us.getD j default) := hel j hj
  have cc := hcell j hj 0 (by omega)
  rw [e] at cc
  have hu' : u = .string (us.getD j default) := by simpa [hj] using hu.symm
  have ead : Addr.add ⟨g, o, none⟩ j = ⟨g, o + j, none⟩ := by
    by_cases h0 : j = 0
    · subst h0; rfl
    · simp [Addr.add, h0]
  rw [hu', ead, World.cell?_of_block (w := w) (a := ⟨g, o + j, none⟩) (hS g hg)]
  simpa using cc
set_option maxHeartbeats 1600000 in
theorem names_any (x : Value) (f : Fld) (w : World) (S : Nat → Prop) (hx : FldAt w S x f) (hS : ∀ g, S g → g < w.heap.size) (hf : szFld f ≤ 1048576) :
    Calls Try.prog 89 #[x] w fun e w' => ∃ v, e = .returned v ∧ StrsAt w' (seg w.heap.size w'.heap.size) v (nms f) ∧ Below w.heap.size w w' := by
  obtain ⟨A, c, B, d, rfl, hA, -⟩ := form hx
  have HA := Seg.hid hA
  have hl := len_was hf
  obtain ⟨i0, hi, hz0, hz1, hz2⟩ := info_parts infoS
  clear hx hA hf
  go_enter Try.func89, Try.ntmps89
  have OW : Hid (∀ o : Obj, ((w.alloc o).alloc (.cells #[.string f.name] 9 (0, 0))).ownsRow w.heap.size 9 1 (.slice (some ⟨w.heap.size + 1, 0, none⟩) 1 1) 1 [.string f.name]) := fun o => by
    have hg := heap_alloc_new (w.alloc o) (.cells #[.string f.name] 9 (0, 0))
    rw [hsz] at hg
    exact ⟨rfl, .inr ⟨w.heap.size + 1, 1, #[.string f.name], rfl, by omega, hg, by omega, by unfold maxLen; omega, rfl, rfl⟩⟩
  have NW : Hid (∀ w', Below w.heap.size w w' → f.was.length ≠ 0 → ∃ ad, A = some ad ∧ ∀ j u, (f.was.map Value.string)[j]? = some u → w'.cell? (ad.add j) = some u) := fun w' b => was_news HA.out (fun g hg => b.block g (hS g hg))
  go_wp2_with (at_builtin; refine AppW.wpList_append_all _ rfl _ _ 81 rfl w.heap.size 9 i0 _ 1 16 Try.underlying81 hi hz0 hz1 hz2 rfl (by decide) _ 1 [.string f.name] rfl (OW.out _) A f.was.length c (f.was.map Value.string) rfl (by simp) (NW.out _ (below2 w _ _)) (by simp [Value.oneCell']) (by unfold maxLen; omega) (by omega) (by rw [hsz, hsz]; omega) ?_; intro v' w2 hown hgr hvb)
  go_ret
  refine ⟨_, rfl, ?_, ?_⟩
  · have := strs_row (ns := nms f) (by simpa [nms] using hown) (by simp [nms]; omega)
    exact this
  · exact (below2 w _ _).grown hgr (by rw [hsz, hsz]; omega) (fun k hk => by have hk' : some (w.heap.size + 1) = some k := hk; injection hk' with h; omega)
theorem all_cells {w w1 : World} {f : Fld} {A B : Option Addr} {c d : Nat} (b1 : Below (w.alloc (.cells (frow f A c B d) 86 (0, 0))).heap.size (w.alloc (.cells (frow f A c B d) 86 (0, 0))) w1) : w1.cell? ⟨w.heap.size, 0, none⟩ = some (.string f.name) ∧ w1.cell? ⟨w.heap.size, 1, none⟩ = some (.int .i64 f.kind) ∧ w1.cell? ⟨w.heap.size, 2, none⟩ = some (.bool f.lst) ∧ w1.cell? ⟨w.heap.size, 3, none⟩ = some (.bool f.may) ∧ w1.cell? ⟨w.heap.size, 4, none⟩ = some (.slice A f.was.length c) ∧ w1.cell? ⟨w.heap.size, 5, none⟩ = some (.bool f.fixd) ∧ w1.cell? ⟨w.heap.size, 6, none⟩ = some (.int .i64 f.vk) ∧ w1.cell? ⟨w.heap.size, 7, none⟩ = some (.int .i64 f.vn) ∧ w1.cell? ⟨w.heap.size, 8, none⟩ = some (.string f.vt) ∧ w1.cell? ⟨w.heap.size, 9, none⟩ = some (.bool f.vl) ∧ w1.cell? ⟨w.heap.size, 10, none⟩ = some (.slice B f.vi.length d) := by
  have h := (b1.block w.heap.size (by rw [hsz]; omega)).trans (heap_alloc_new w _)
  exact ⟨cell_of_row w1 _ 0 _ _ (0, 0) h, cell_of_row w1 _ 1 _ _ (0, 0) h, cell_of_row w1 _ 2 _ _ (0, 0) h, cell_of_row w1 _ 3 _ _ (0, 0) h, cell_of_row w1 _ 4 _ _ (0, 0) h, cell_of_row w1 _ 5 _ _ (0, 0) h, cell_of_row w1 _ 6 _ _ (0, 0) h, cell_of_row w1 _ 7 _ _ (0, 0) h, cell_of_row w1 _ 8 _ _ (0, 0) h, cell_of_row w1 _ 9 _ _ (0, 0) h, cell_of_row w1 _ 10 _ _ (0, 0) h⟩
set_option maxHeartbeats 1600000 in
theorem ok_any (x : Value) (f : Fld) (w : World) (S : Nat → Prop) (hx : FldAt w S x f) (hS : ∀ g, S g → g < w.heap.size) (hf : szFld f ≤ 1048576) :
    Calls Try.prog 87 #[x] w fun e w' => e = .returned (.bool (fOk f)) ∧ Below w.heap.size w w' := by
  have HX := Seg.hid hx
  have HF := Seg.hid hf
  obtain ⟨A, c, B, d, rfl, hA, hI⟩ := form hx
  have HI := Seg.hid hI
  clear hx hA hI
  have R0 : Hid (fOk f = (decide (f.was.length ≤ 4) && kOk f.kind && (nms f).all Nm.nameOk && val f)) := rfl
  go_enter Try.func87, Try.ntmps87
  by_cases h4 : 4 < f.was.length
  · have R : Hid (fOk f = false) := by
      show _ = _
      have : ¬ f.was.length ≤ 4 := by omega
      rw [R0.out]; simp [this]
    have q4 : (4 : Int) < (f.was.length : Int) := by omega
    go_wp2
    go_ret
    exact ⟨by rw [R.out]; rfl, below1 _ _⟩
  have q4 : ¬ (4 : Int) < (f.was.length : Int) := by omega
  have R1 : Hid (fOk f = (kOk f.kind && (nms f).all Nm.nameOk && val f)) := by
    show _ = _
    have : f.was.length ≤ 4 := by omega
    rw [R0.out]; simp [this]
  cases hk : kOk f.kind with
  | false =>
    have R : Hid (fOk f = false) := by show _ = _; rw [R1.out]; simp [hk]
    have HK : Hid (inR 1 f.kind 4 = false) := hk
    clear hk
    go_wp2_with (go_at_call 41; refine (InB.within_b _ _ _ _ HK.out _).mono ?_; rintro e w5 ⟨rfl, rfl⟩)
    go_ret
    exact ⟨by rw [R.out]; rfl, below1 _ _⟩
  | true =>
    have R2 : Hid (fOk f = ((nms f).all Nm.nameOk && val f)) := by show _ = _; rw [R1.out]; simp [hk]
    have HK : Hid (inR 1 f.kind 4 = true) := hk
    clear hk
    go_wp2_with (go_at_call 41; refine (InB.within_b _ _ _ _ HK.out _).mono ?_; rintro e w5 ⟨rfl, rfl⟩)
    refine (names_any _ f (w.alloc _) S (HX.out.below (below1 w _) hS) (fun g hg => by rw [hsz]; have := hS g hg; omega) HF.out).mono ?_
    rintro e w1 ⟨vn, rfl, hn, b1⟩
    have B1 := Seg.hid (chain (below1 w _) b1)
    obtain ⟨c0, c1, c2, c3, c4, c5, c6, c7, c8, c9, c10⟩ := all_cells b1
    have s1 : w.heap.size < w1.heap.size := by have := b1.size; rw [hsz] at this; omega
    clear b1
    obtain ⟨An, cn, gn, on, Fn, rfl, OP, hnn⟩ := opn hn (fun g hg => hg.2)
    have HP := Seg.hid OP
    clear hn OP
    have hlen : (nms f).length ≤ 5 := by simp [nms]; omega
    have SZN := Seg.hid (fun k hk => sz_nms HF.out (k := k) hk)
    go_wp2
    go_loop [18] (fun i => ∃ k : Nat, k ≤ (nms f).length ∧ i = .int .i64 k ∧ Hid (((nms f).take k).all Nm.nameOk = true)) (fun i => (nms f).length - (intOf i).toNat)
    case atStart => exact ⟨0, Nat.zero_le _, rfl, (show ((nms f).take 0).all Nm.nameOk = true from rfl)⟩
    case round =>
      obtain ⟨k, hk, rfl, HG⟩ := hrel
      by_cases hlt : k < (nms f).length
      · obtain ⟨ea, hc, hgw⟩ := HP.out.addr.resolve_left (by omega)
        subst ea
        have d0 := strs_cell HP.out rfl hlt
        have h0 : (0 : Int) ≤ (k : Int) := by omega
        have h1 : (k : Int) < ((nms f).length : Int) := by omega
        have TZ : Hid (((nms f).getD k default).size ≤ maxLen) := by show _ ≤ _; have := SZN.out k hlt; unfold maxLen; omega
        have NX := Seg.hid (all_next Nm.nameOk (nms f) k hlt HG.out)
        have BX := Seg.hid (all_bad Nm.nameOk (nms f) k hlt)
        generalize (nms f).getD k default = nk at *
        cases hy : Nm.nameOk nk with
        | true =>
          have NY : Hid (((nms f).take (k + 1)).all Nm.nameOk = true) := NX.out hy
          have HY := Seg.hid hy
          clear hy NX BX
          go_wp2_with (go_at_call 86; refine (Nm.impl_q _ _ HY.out _ TZ.out).mono ?_; rintro e w5 ⟨rfl, rfl⟩)
          go_round
          case rel => exact ⟨k + 1, by omega, by go_num, NY.out⟩
          case measure => simp [intOf]; omega
        | false =>
          have NY : Hid (fOk f = false) := by show _ = _; rw [R2.out, BX.out hy]; rfl
          have HY := Seg.hid hy
          clear hy NX BX
          go_wp2_with (go_at_call 86; refine (Nm.impl_q _ _ HY.out _ TZ.out).mono ?_; rintro e w5 ⟨rfl, rfl⟩)
          go_ret
          exact ⟨by rw [NY.out]; rfl, B1.out⟩
      · obtain rfl : k = (nms f).length := by omega
        have R3 : Hid (fOk f = val f) := by
          show _ = _
          have := HG.out
          rw [List.take_length] at this
          rw [R2.out, this]; rfl
        have VB := Seg.hid (inner (HI.out.below keepsItm B1.out hS))
        have hSw : ∀ g, S g → g < w1.heap.size := fun g hg => Nat.lt_of_lt_of_le (hS g hg) B1.out.size
        obtain ⟨fx, hfx⟩ : ∃ b, f.fixd = b := ⟨_, rfl⟩
        cases fx with
        | true =>
          have R4 : Hid (fOk f = vof f.kind f.lst f.may (vluOf f)) := by show _ = _; rw [R3.out]; simp [val, hfx]
          have CV : Hid (Calls Try.prog 96 #[.agg #[.string f.name, .int .i64 f.kind, .bool f.lst, .bool f.may, .slice A f.was.length c, .bool true, .int .i64 f.vk, .int .i64 f.vn, .string f.vt, .bool f.vl, .slice B f.vi.length d], .agg (vrow (vluOf f) B d)] w1 fun e w' => e = .returned (.bool (vof f.kind f.lst f.may (vluOf f))) ∧ Below w1.heap.size w1 w') := by
            have h := VoI.impl_any _ _ f (vluOf f) w1 S (HX.out.below B1.out hS) VB.out hSw (sz_inner f HF.out)
            rw [frow, hfx] at h
            exact h
          go_wp2_with (go_at_call 96; refine (CV.out).mono ?_; rintro e w2 ⟨rfl, b2⟩; have B2 := Seg.hid (chain B1.out b2); clear b2)
          go_ret
          exact ⟨by rw [R4.out]; rfl, B2.out⟩
        | false =>
          have R4 : Hid (fOk f = zero (vluOf f)) := by show _ = _; rw [R3.out]; simp [val, hfx]
          go_wp2_with (go_at_call 120; refine (VkI.zero_any (vluOf f) B d w1).mono ?_; rintro e w2 ⟨rfl, b2⟩; have B2 := Seg.hid (chain B1.out b2); clear b2)
          go_ret
          exact ⟨by rw [R4.out]; rfl, B2.out⟩
end Go.Proofs.Ytdhicmbfknagjaa.ScN
namespace Go.Proofs.Ytdhicmbfknagjaa.ScI
set_option maxRecDepth 8000
open Go.RowKit
open Ls Lp VkP VkR ScP ScM ScN
open Recs (hsz below1 below2 below3 chain chainD)
set_option linter.unusedVariables false
abbrev srow (s : Sch) (A : Option Addr) (c : Nat) : Array Value := #[.string s.name, .slice A s.fields.length c]
theorem formS {w : World} {S : Nat → Prop} {v : Value} {s : Sch} (h : SchAt w S v s) : ∃ A c, v = .agg (srow s A c) ∧ LAt 11 EFld w S (.slice A s.fields.length c) s.fields := by
  obtain ⟨q, rfl, y0, y1⟩ := h
  obtain ⟨A, c, h1⟩ := y1.form
  refine ⟨A, c, ?_, by rw [← h1]; exact y1⟩
  simp only [arrSch, srow]
  rw [y0, h1]
/-- The cells of one field of a list. -/
theorem fld_at {w w' : World} {S : Nat → Prop} {A : Option Addr} {c : Nat} {us : List Fld} {g o : Nat} {F : Nat → Nat → Value} (h : Opn 11 EFld w S A c us g o F) (hS : ∀ g, S g → g < w.heap.size) (hb : Below w.heap.size w w') {k : Nat} (hk : k < us.length) : ∃ A' c' B' d', FldAt w' S (.agg (frow (us.getD k default) A' c' B' d')) (us.getD k default) ∧ w'.cell? ⟨g, o + k * 11, none⟩ = some (.string (us.getD k default).name) ∧ w'.cell? ⟨g, o + k * 11 + 1, none⟩ = some (.int .i64 (us.getD k default).kind) ∧ w'.cell? ⟨g, o + k * 11 + 2, none⟩ = some (.bool (us.getD k default).lst) ∧ w'.cell? ⟨g, o + k * 11 + 3, none⟩ = some (.bool (us.getD k default).may) ∧ w'.cell? ⟨g, o + k * 11 + 4, none⟩ = some (.slice A' (us.getD k default).was.length c') ∧ w'.cell? ⟨g, o + k * 11 + 5, none⟩ = some (.bool (us.getD k default).fixd) ∧ w'.cell? ⟨g, o + k * 11 + 6, none⟩ = some (.int .i64 (us.getD k default).vk) ∧ w'.cell? ⟨g, o + k * 11 + 7, none⟩ = some (.int .i64 (us.getD k default).vn) ∧ w'.cell? ⟨g, o + k * 11 + 8, none⟩ = some (.string (us.getD k default).vt) ∧ w'.cell? ⟨g, o + k * 11 + 9, none⟩ = some (.bool (us.getD k default).vl) ∧ w'.cell? ⟨g, o + k * 11 + 10, none⟩ = some (.slice B' (us.getD k default).vi.length d') := by
  have OL := h.later keepsFld hS hb
  have e := OL.el k hk
  have cc := OL.cells k hk
  obtain ⟨A', c', B', d', hv, -, -⟩ := form (v := .agg (arrFld (F k))) ⟨F k, rfl, e⟩
  have hv' : arrFld (F k) = frow (us.getD k default) A' c' B' d' := by injection hv
  simp only [arrFld, frow, Array.mk.injEq, List.cons.injEq, and_true] at hv'
  obtain ⟨e0, e1, e2, e3, e4, e5, e6, e7, e8, e9, e10⟩ := hv'
  refine ⟨A', c', B', d', by rw [← hv]; exact ⟨F k, rfl, e⟩, ?_, ?_, ?_, ?_, ?_, ?_, ?_, ?_, ?_, ?_, ?_⟩
  · rw [← e0]; exact cc 0 (by omega)
  · rw [← e1]; exact cc 1 (by omega)
  · rw [← e2]; exact cc 2 (by omega)
  · rw [← e3]; exact cc 3 (by omega)
  · rw [← e4]; exact cc 4 (by omega)
  · rw [← e5]; exact cc 5 (by omega)
  · rw [← e6]; exact cc 6 (by omega)
  · rw [← e7]; exact cc 7 (by omega)
  · rw [← e8]; exact cc 8 (by omega)
  · rw [← e9]; exact cc 9 (by omega)
  · rw [← e10]; exact cc 10 (by omega)
theorem Set.mono {w : World} {bm n n' : Nat} {seen : List ByteArray} (h : Set w bm n seen) (hn : n ≤ n') : Set w bm n' seen := by
  obtain ⟨D, h, h2⟩ := h
  exact ⟨D, h.mono hn, h2⟩
theorem sz_fields {s : Sch} (h : szSch s ≤ 1048576) : szL szFld s.fields ≤ 1048576 := by unfold szSch at h; omega
theorem sz_sname {s : Sch} (h : szSch s ≤ 1048576) : s.name.size ≤ 1048576 := by unfold szSch at h; omega
theorem nms_few {f : Fld} (h : fOk f = true) : (nms f).length ≤ 5 := by
  simp [fOk] at h
  simp [nms]
  omega
set_option maxHeartbeats 3200000 in
theorem impl_any (x : Value) (s : Sch) (w : World) (S : Nat → Prop) (hx : SchAt w S x s) (hS : ∀ g, S g → g < w.heap.size) (hf : szSch s ≤ 1048576) :
    Calls Try.prog 49 #[x] w fun e w' => e = .returned (.bool (sok s)) ∧ Below w.heap.size w w' := by
  obtain ⟨A0, c0, rfl, hl⟩ := formS hx
  obtain ⟨A, c, g, o, F, e, OP, hn⟩ := opn hl hS
  cases e
  have HO := Seg.hid OP
  have HZ := Seg.hid (sz_fields hf)
  have TN : Hid (s.name.size ≤ maxLen) := by show _ ≤ _; have := sz_sname hf; unfold maxLen; omega
  clear hx hl OP hf
  have R0 : Hid (sok s = (Nm.nameOk s.name && inR 1 s.fields.length 20 && run [] s.fields)) := rfl
  go_enter Try.func49, Try.ntmps49
  cases hy : Nm.nameOk s.name with
  | false =>
    have R : Hid (sok s = false) := by show _ = _; rw [R0.out]; simp [hy]
    have HY := Seg.hid hy
    clear hy
    go_wp2_with (go_at_call 86; refine (Nm.impl_q _ _ HY.out _ TN.out).mono ?_; rintro e w5 ⟨rfl, rfl⟩)
    go_ret
    exact ⟨by rw [R.out]; rfl, below1 _ _⟩
  | true =>
  cases hk : inR 1 s.fields.length 20 with
  | false =>
    have R : Hid (sok s = false) := by show _ = _; rw [R0.out]; simp [hk]
    have HY := Seg.hid hy
    have HK := Seg.hid hk
    clear hy hk
    go_wp2_with (first | (go_at_call 86; refine (Nm.impl_q _ _ HY.out _ TN.out).mono ?_; rintro e w5 ⟨rfl, rfl⟩) | (go_at_call 41; refine (InB.within_b _ _ _ _ HK.out _).mono ?_; rintro e w5 ⟨rfl, rfl⟩))
    go_ret
    exact ⟨by rw [R.out]; rfl, below1 _ _⟩
  | true =>
    have R : Hid (sok s = run [] s.fields) := by show _ = _; rw [R0.out]; simp [hy, hk]
    have h20 := inR_true hk
    have HY := Seg.hid hy
    have HK := Seg.hid hk
    clear hy hk
    have hmm := @run_makeMap Try.prog
    go_upto_region 4 with (first | (go_at_call 86; refine (Nm.impl_q _ _ HY.out _ TN.out).mono ?_; rintro e w5 ⟨rfl, rfl⟩) | (go_at_call 41; refine (InB.within_b _ _ _ _ HK.out _).mono ?_; rintro e w5 ⟨rfl, rfl⟩))
    obtain ⟨w1, hw1⟩ : ∃ w1, (w.alloc (.cells (srow s A0 c0) 43 (0, 0))).alloc (.map #[] 0) = w1 := ⟨_, rfl⟩
    have B1 : Hid (Below w.heap.size w w1) := by show Below _ _ _; rw [← hw1]; exact below2 _ _ _
    have M1 : Hid (Set w1 (w.heap.size + 1) 0 []) := by
      have := Set.made (w.alloc (.cells (srow s A0 c0) 43 (0, 0)))
      rw [hsz] at this
      show Set _ _ _ _
      rw [← hw1]; exact this
    have p1 : w1.cell? ⟨w.heap.size, 1, none⟩ = some (.slice A0 s.fields.length c0) := by
      rw [← hw1]
      exact cell_of_row _ _ 1 _ _ (0, 0) (at2z w _ _)
    try rw [hw1]
    clear hw1 hmm
    go_wp2
    go_loopw [21] (fun i wr => ∃ (k : Nat) (seen : List ByteArray), k ≤ s.fields.length ∧ i = .int .i64 k ∧ Hid (Below w.heap.size w wr ∧ Set wr (w.heap.size + 1) (5 * k) seen ∧ run seen (s.fields.drop k) = run [] s.fields)) (fun i _ => s.fields.length - (intOf i).toNat)
    case atStart => exact ⟨0, [], Nat.zero_le _, rfl, B1.out, M1.out, rfl⟩
    case round =>
      clear B1 M1
      obtain ⟨k, seen, hk, rfl, HG⟩ := hrel
      by_cases hlt : k < s.fields.length
      · obtain ⟨ea, hc, hgw⟩ := HO.out.addr.resolve_left (by omega)
        subst ea
        obtain ⟨A', c', B', d', hfl, d0, d1, d2, d3, d4, d5, d6, d7, d8, d9, d10⟩ := fld_at HO.out hS HG.out.1 hlt
        have h0 : (0 : Int) ≤ (k : Int) := by omega
        have h1 : (k : Int) < (s.fields.length : Int) := by omega
        have SF : Hid (szFld (s.fields.getD k default) ≤ 1048576) := szL_one szFld HZ.out hlt
        have ST := Seg.hid (run_step hlt seen)
        have HFL := Seg.hid hfl
        have BW := Seg.hid HG.out.1
        have MW := Seg.hid HG.out.2.1
        have RW := Seg.hid HG.out.2.2
        have hbm : w.heap.size + 1 < wr.heap.size := MW.out.lt
        clear HG hfl
        generalize s.fields.getD k default = f at *
        have CO : Hid (∀ wx, Below wr.heap.size wr wx → Calls Try.prog 87 #[.agg (frow f A' c' B' d')] wx fun e w' => e = .returned (.bool (fOk f)) ∧ Below wx.heap.size wx w') := fun wx b => ok_any _ f wx S (HFL.out.below b (fun g hg => Nat.lt_of_lt_of_le (hS g hg) BW.out.size)) (fun g hg => Nat.lt_of_lt_of_le (hS g hg) (Nat.le_trans BW.out.size b.size)) SF.out
        have CN : Hid (∀ wx, Below wr.heap.size wr wx → Calls Try.prog 89 #[.agg (frow f A' c' B' d')] wx fun e w' => ∃ v, e = .returned v ∧ StrsAt w' (seg wx.heap.size w'.heap.size) v (nms f) ∧ Below wx.heap.size wx w') := fun wx b => names_any _ f wx S (HFL.out.below b (fun g hg => Nat.lt_of_lt_of_le (hS g hg) BW.out.size)) (fun g hg => Nat.lt_of_lt_of_le (hS g hg) (Nat.le_trans BW.out.size b.size)) SF.out
        go_wp2_with fail
        refine (CO.out _ (below1 wr _)).mono ?_
        rintro e w2 ⟨rfl, b2⟩
        obtain ⟨q0, q1, q2, q3, q4, q5, q6, q7, q8, q9, q10⟩ := all_cells b2
        have N2 := Seg.hid (chain (below1 wr _) b2)
        clear b2 d0 d1 d2 d3 d4 d5 d6 d7 d8 d9 d10
        cases hok : fOk f with
        | false =>
          have RF : Hid (run [] s.fields = false) := by show _ = _; rw [← RW.out, ST.out, hok]; rfl
          clear hok
          go_wp2
          go_ret
          exact ⟨by rw [R.out, RF.out]; rfl, chain BW.out N2.out⟩
        | true =>
          have FE := Seg.hid (nms_few hok)
          have S2 : Hid (run seen (s.fields.drop k) = (dst seen (nms f) && run (seen ++ nms f) (s.fields.drop (k + 1)))) := by show _ = _; rw [ST.out, hok]; rfl
          clear hok
          go_wp2_with fail
          refine (CN.out _ N2.out).mono ?_
          rintro e w3 ⟨vn, rfl, hvn, b3⟩
          have N3 := Seg.hid (chain N2.out b3)
          have s3 := b3.size
          have s2 := N2.out.size
          clear b3
          obtain ⟨An, cn, e3⟩ := hvn.form
          subst e3
          go_wp2_with fail
          refine (add_any (w.heap.size + 1) (5 * k) w.heap.size _ (nms f) seen w3 _ (MW.out.keep (N3.out.block _ hbm)) (by omega) hvn (fun g hg => hg.2) (fun g hg => by have := hg.1; omega) (fun j hj => sz_nms SF.out hj) (by have := FE.out; omega)).mono ?_
          rintro e w4 ⟨rfl, b4, h4⟩
          have B4 : Hid (Below w.heap.size w w4) := (chain BW.out N3.out).trans b4
          have H4 := Seg.hid h4
          clear b4 h4 hvn
          cases hd : dst seen (nms f) with
          | false =>
            have RF : Hid (run [] s.fields = false) := by show _ = _; rw [← RW.out, S2.out, hd]; rfl
            clear hd
            go_wp2
            go_ret
            exact ⟨by rw [R.out, RF.out]; rfl, B4.out⟩
          | true =>
            have RF : Hid (run (seen ++ nms f) (s.fields.drop (k + 1)) = run [] s.fields) := by show _ = _; rw [← RW.out, S2.out, hd]; rfl
            have M4 : Hid (Set w4 (w.heap.size + 1) (5 * (k + 1)) (seen ++ nms f)) := Set.mono (H4.out hd) (by have := FE.out; omega)
            clear hd H4
            go_wp2
            go_roundw
            case rel => exact ⟨k + 1, _, by omega, by go_num, B4.out, M4.out, RF.out⟩
            case measure => simp [intOf]; omega
      · obtain rfl : k = s.fields.length := by omega
        have RF : Hid (run [] s.fields = true) := by show _ = _; rw [← HG.out.2.2]; simp [run]
        go_wp2
        go_ret
        exact ⟨by rw [R.out, RF.out]; rfl, HG.out.1⟩
namespace FSch
theorem form {w : World} {S : Nat → Prop} {v : Value} {t : Sch} (h : SchAt w S v t) : ∃ A1 aq1, v = .agg #[.string t.name, .slice A1 t.fields.length aq1] := by
  obtain ⟨A, c, h1, -⟩ := formS h
  exact ⟨A, c, h1⟩
end FSch
end Go.Proofs.Ytdhicmbfknagjaa.ScI
