/- The program's copy of a list of Segments; RecordOk of the model and of the program: one plain function of the record. -/
import Derived.WalkLawsBesides
import Derived.Test.YtidpjoffacmgmaaJC11
import Derived.Test.YtidpjoffacmgmaaJC03
namespace Go.Proofs.Ytidpjoffacmgmaa.Ft
set_option maxRecDepth 8000
open Go.RowKit
open Recs
open Bats (BatsAt batsCells)
open SegW
open Segs (SegsAt segsCells)
set_option linter.unusedVariables false
theorem seg_el {w : World} {t : Sg} {bv : Value} {Q : Nat → Prop} (h : OwnB w Q bv t.bats) : ES w Q (fun q => (segArr t bv).toList.getD q default) t := ⟨rfl, h⟩
theorem infoSg : (Try.prog.info? 40).map (fun i => (i.zero, i.size, i.bytes)) = some (some (.agg #[.int .i64 0, .slice none 0 0]), 2, 32) := by kernel_rfl
/-- One Segment more: w8: behind its copy; w9: behind append. -/
theorem segs_push {base : Nat} {wr w8 w9 : World} {v : Value} {us : List Sg} {F : Nat → Value} {P : Nat → Nat → Prop} {t : Sg} {bv : Value} {o : Obj} {g cap : Nat} (hbase : base ≤ wr.heap.size) (hG : LGr 40 2 ES wr base v us F P) (b8 : Below wr.heap.size wr w8) (ho : OwnB w8 (seg wr.heap.size w8.heap.size) bv t.bats)
    (hown : w9.ownsRow base 40 2 (.slice (some ⟨g, 0, none⟩) (us.length + 1) cap) (us.length + 1) ((List.range (us.length * 2)).map F ++ (segArr t bv).toList)) (gr : (w8.alloc o).grownBy w9 v.ownBlock) (hg : v.ownBlock = some g ∨ g = w8.heap.size + 1) :
    LGrow 40 2 ES w9 base (.slice (some ⟨g, 0, none⟩) (us.length + 1) cap) (us ++ [t]) ∧ Below base wr w9 := by
  have s8 := b8.size
  have gs := gr.size
  rw [hsz] at gs
  have hvb : ∀ x, v.ownBlock = some x → base ≤ x ∧ x < wr.heap.size := fun x hx => World.ownsRow.lt hG.own x hx
  refine ⟨LGr.push keepsS (w2 := w8.alloc o) (w3 := w9) (g := g) (cap := cap) (Q := seg wr.heap.size w8.heap.size) (t := t) (news := (segArr t bv).toList) hG hbase (by rw [hsz]; omega) (fun x _ hx => by rw [heap_alloc_old _ _ (by omega), b8.block x hx]) (seg_el (LOwn.keep keepsB ho (by rw [hsz]; omega) (fun x hx => heap_alloc_old _ _ hx.2))) (fun x hx => by rw [hsz]; obtain ⟨x1, x2⟩ := hx; exact ⟨x1, by omega⟩) rfl hown gr (by rw [hsz]; exact hg), gr.os.trans b8.os, gr.tape.trans b8.tape, gr.output.trans b8.output, by omega, fun x hx => ?_⟩
  rw [gr.block x (by rw [hsz]; omega) (fun e => by have := hvb x e.symm; omega), heap_alloc_old _ _ (by omega), b8.block x (by omega)]
set_option maxHeartbeats 1600000 in
theorem copySegments_core (ss : List Sg) (A : Option Addr) (c : Nat) (w : World) (lo b : Nat) (hb : b ≤ w.heap.size) (hl : ss.length ≤ 1048576) (hf : ∀ i, i < ss.length → FewS (ss.getD i default)) (hv : SegsAt w lo b (.slice A ss.length c) ss) :
    Calls Try.prog 22 #[.slice A ss.length c] w fun e w' => ∃ sv, e = .returned sv ∧ LGrow 40 2 ES w' w.heap.size sv ss ∧ Below w.heap.size w w' := by
  obtain ⟨i0, hi, hz0, hz1, hz2⟩ := info_parts infoSg
  have HF := Seg.hid hf
  obtain ⟨H, ⟨_, A', c', hsl, hrow⟩, hh⟩ := hv
  simp only [Value.slice.injEq] at hsl
  obtain ⟨rfl, _, rfl⟩ := hsl
  have HROW := Seg.hid hrow; have HH := Seg.hid hh
  clear hrow hh hf
  go_enter Try.func22, Try.ntmps22
  go_wp2_with fail
  go_loopw [3, 8] (fun v i wr => ∃ (j : Nat) (us : List Sg) (A1 : Option Addr) (c1 : Nat), j ≤ ss.length ∧ i = .int .i64 j ∧ v = .slice A1 us.length c1 ∧ Hid (us = ss.take j ∧ LGrow 40 2 ES wr w.heap.size (.slice A1 us.length c1) us ∧ Below w.heap.size w wr)) (fun _ i _ => ss.length - (intOf i).toNat)
  case atStart => exact ⟨0, [], none, 0, Nat.zero_le _, rfl, rfl, by simp, LGrow.nil _ _, Below.refl _ _⟩
  case round =>
    obtain ⟨j, us, A1, c1, hj, rfl, rfl, HW⟩ := hrel
    by_cases hlt : j < ss.length
    · have h0 : (0 : Int) ≤ (j : Int) := by omega
      have h1 : (j : Int) < (ss.length : Int) := by omega
      obtain ⟨g, o, rfl, hg, hc, hcell, _⟩ := HROW.out.resolve_left (by omega)
      have hgw : g < w.heap.size := by omega
      obtain ⟨e0, e1⟩ := Segs.six (fun i hi q hq => by rw [HW.out.2.2.cell (p := ⟨g, o + i * 2 + q, none⟩) hgw]; exact hcell i hi q hq) j hlt
      have UL : Hid (us.length = j) := by show _ = _; rw [HW.out.1, List.length_take]; omega
      have UN : Hid (us ++ [ss.getD j default] = ss.take (j + 1)) := by show _ = _; rw [HW.out.1]; exact (take_one hlt).symm
      have BL := Seg.hid HW.out.2.2
      obtain ⟨F, P, hG⟩ := HW.out.2.1
      have HG := Seg.hid hG
      have hz := BL.out.size
      have hul : us.length ≤ 1048576 := by rw [UL.out]; omega
      have BT : Hid (∀ wx, Below wr.heap.size wr wx → SegAt wx lo b (.agg (segArr (ss.getD j default) (H j))) (ss.getD j default)) := fun wx bx => ⟨_, rfl, (HH.out j hlt).below ((chain HW.out.2.2 bx).mono hb)⟩
      have FB := Seg.hid (HF.out j hlt)
      obtain ⟨_, ⟨_, Ah, ch, hHj, _⟩, _⟩ := HH.out j hlt
      clear hcell HW hG
      generalize ss.getD j default = tj at *
      rw [hHj] at e1 BT
      clear hHj
      go_wp2_with fail
      refine (copySegment_any _ tj (wr.alloc _) lo b (BT.out _ (below1 wr _)) (by rw [hsz]; omega) FB.out).mono ?_
      rintro e w8 ⟨rv8, rfl, ow8, b8'⟩
      have b8 := Seg.hid (chain (below1 wr _) b8')
      have O8 := Seg.hid (LOwn.mono ow8 (S' := seg wr.heap.size w8.heap.size) (fun x hx => ⟨Nat.le_trans (by rw [hsz]; omega) hx.1, hx.2⟩))
      have s8 := b8.out.size
      obtain ⟨A8, c8, hA8⟩ := LOwn.form ow8
      subst hA8
      clear ow8 b8' e0 e1
      unfold segVal
      go_wp2_with (at_builtin; (refine wpList_append_lies _ rfl _ _ 26 rfl w.heap.size 40 i0 _ 2 32 Try.underlying26 hi hz0 hz1 hz2 rfl (by decide) (.slice A1 us.length c1) us.length ((List.range (us.length * 2)).map F) rfl (World.ownsRow.alloc (own_keep HG.out.own (fun x _ hx => b8.out.block x hx)) _) ⟨w8.heap.size, 0, none⟩ 1 1 (segArr tj (.slice A8 tj.bats.length c8)).toList rfl rfl (World.news_of_block (cs := segArr tj (.slice A8 tj.bats.length c8)) (heap_alloc_new w8 _)) (by simp [segArr, Value.oneCell']) (by decide) (by unfold maxLen; omega) (by omega) (by rw [hsz]; omega) (w8.heap.size + 1) (hsz w8 _) ?_; intro g9 cap9 w9 hown9 gr9 hat9 hlt9; have D9 := Seg.hid (segs_push hz HG.out b8.out O8.out hown9 gr9 hat9); clear hown9 gr9 hat9 hlt9))
      go_roundw
      case rel => exact ⟨j + 1, us ++ [tj], some ⟨g9, 0, none⟩, cap9, by omega, by go_num, by rw [List.length_append]; rfl, UN.out, by rw [List.length_append]; exact D9.out.1, BL.out.trans D9.out.2⟩
      case measure => simp [intOf]; omega
    · have G1 : Hid (LGrow 40 2 ES wr w.heap.size (.slice A1 us.length c1) ss ∧ Below w.heap.size w wr) := by
        have := HW.out
        rw [show j = ss.length by omega, List.take_length] at this
        obtain ⟨rfl, h2⟩ := this
        exact h2
      have : j = ss.length := by omega
      clear HW
      subst this
      go_wp2_with fail
      go_ret
      exact ⟨_, rfl, G1.out⟩
theorem copySegments_any (v : Value) (ss : List Sg) (w : World) (lo b : Nat) (hb : b ≤ w.heap.size) (hl : ss.length ≤ 1048576) (hf : ∀ i, i < ss.length → FewS (ss.getD i default)) (hv : SegsAt w lo b v ss) :
    Calls Try.prog 22 #[v] w fun e w' => ∃ sv, e = .returned sv ∧ LGrow 40 2 ES w' w.heap.size sv ss ∧ Below w.heap.size w w' := by
  obtain ⟨_, ⟨_, A, c, rfl, _⟩, _⟩ := id hv
  exact copySegments_core ss A c w lo b hb hl hf hv
end Go.Proofs.Ytidpjoffacmgmaa.Ft
namespace Go.Proofs.Ytidpjoffacmgmaa.ROk
set_option maxRecDepth 8000
open Go.RowKit
open Recs
set_option linter.unusedVariables false

def okH (h : Hd) : Bool := !h.key.toList.isEmpty && decide (h.key.size ≤ 100) && decide (h.val.size ≤ 100)
def okR0 (r : Rec) : Bool := (decide (0 ≤ r.time) && decide (r.time ≤ 1000000000000)) && decide (r.key.size ≤ 100) && decide (r.val.size ≤ 100) && decide (r.heads.length ≤ 3)
def okR1 (r : Rec) : Bool := (r.keyed || r.key.toList.isEmpty) && (!r.gone || r.val.toList.isEmpty)
def okR (r : Rec) : Bool := okR0 r && okR1 r && r.heads.all okH

theorem l1In_any (x lo hi : Int) (w : World) : Calls Try.prog 16 #[.int .i64 x, .int .i64 lo, .int .i64 hi] w fun e w' => e = .returned (.bool (decide (lo ≤ x) && decide (x ≤ hi))) ∧ w = w' := by
  go_enter Try.func16, Try.ntmps16
  go_wp2
  all_goals
    go_ret
    exact ⟨Seg.ret_bool (by rw [Bool.eq_iff_iff]; simp; try omega), rfl⟩
theorem within_any (x lo hi : Int) (w : World) : Calls Try.prog 20 #[.int .i64 x, .int .i64 lo, .int .i64 hi] w fun e w' => e = .returned (.bool (decide (lo ≤ x) && decide (x ≤ hi))) ∧ w = w' := by
  go_enter Try.func20, Try.ntmps20
  go_wp2
  all_goals
    go_ret
    exact ⟨Seg.ret_bool (by rw [Bool.eq_iff_iff]; simp; try omega), rfl⟩
theorem textOk_any (s : ByteArray) (w : World) : Calls Try.prog 68 #[.string s] w fun e w' => e = .returned (.bool (decide (s.size ≤ 100))) ∧ w = w' := by
  go_enter Try.func68, Try.ntmps68
  go_wp2
  all_goals
    go_ret
    exact ⟨Seg.ret_bool (by rw [Bool.eq_iff_iff]; simp; omega), rfl⟩

theorem l1In_b (x lo hi : Int) (b : Bool) (hb : (decide (lo ≤ x) && decide (x ≤ hi)) = b) (w : World) : Calls Try.prog 16 #[.int .i64 x, .int .i64 lo, .int .i64 hi] w fun e w' => e = .returned (.bool b) ∧ w = w' := by
  subst hb; exact l1In_any x lo hi w
theorem within_b (x lo hi : Int) (b : Bool) (hb : (decide (lo ≤ x) && decide (x ≤ hi)) = b) (w : World) : Calls Try.prog 20 #[.int .i64 x, .int .i64 lo, .int .i64 hi] w fun e w' => e = .returned (.bool b) ∧ w = w' := by
  subst hb; exact within_any x lo hi w
theorem textOk_b (s : ByteArray) (b : Bool) (hb : decide (s.size ≤ 100) = b) (w : World) : Calls Try.prog 68 #[.string s] w fun e w' => e = .returned (.bool b) ∧ w = w' := by
  subst hb; exact textOk_any s w
theorem gt_of (n m : Nat) (h : decide (n ≤ m) = false) : (m : Int) < (n : Int) := by simp at h; omega
theorem le_of (n m : Nat) (h : decide (n ≤ m) = true) : ¬ (m : Int) < (n : Int) := by simp at h; omega

def rv (t : Int) (kd : Bool) (k : ByteArray) (gn : Bool) (v : ByteArray) (hv : Value) : Value := .agg #[.int .i64 t, .bool kd, .string k, .bool gn, .string v, hv]
def ok0 (t : Int) (k v : ByteArray) (n : Nat) : Bool := (decide (0 ≤ t) && decide (t ≤ 1000000000000)) && decide (k.size ≤ 100) && decide (v.size ≤ 100) && decide (n ≤ 3)
def ok1 (kd : Bool) (k : ByteArray) (gn : Bool) (v : ByteArray) : Bool := (kd || k.toList.isEmpty) && (!gn || v.toList.isEmpty)

set_option maxHeartbeats 800000 in
theorem spec_no0 (t : Int) (kd : Bool) (k : ByteArray) (gn : Bool) (v : ByteArray) (A : Option Addr) (n c : Nat) (w : World) (h : ok0 t k v n = false) :
    Calls Try.prog 47 #[rv t kd k gn v (.slice A n c)] w fun e w' => e = .returned (.bool false) ∧ Below w.heap.size w w' := by
  unfold rv
  cases h1 : (decide (0 ≤ t) && decide (t ≤ 1000000000000)) with
  | false =>
    have H1 := Seg.hid h1
    clear h
    try clear h1
    try clear h2
    try clear h3
    try clear h4
    go_enter Try.func47, Try.ntmps47
    go_wp2_with (go_at_call 16; refine (l1In_b _ _ _ _ H1.out _).mono ?_; rintro _ _ ⟨rfl, rfl⟩)
    go_ret
    exact ⟨rfl, below1 _ _⟩
  | true =>
  have H1 := Seg.hid h1
  cases h2 : decide (k.size ≤ 100) with
  | false =>
    have g2 : (100 : Int) < (k.size : Int) := gt_of _ _ h2
    clear h
    try clear h1
    try clear h2
    try clear h3
    try clear h4
    go_enter Try.func47, Try.ntmps47
    go_wp2_with (go_at_call 16; refine (l1In_b _ _ _ _ H1.out _).mono ?_; rintro _ _ ⟨rfl, rfl⟩)
    go_ret
    exact ⟨rfl, below1 _ _⟩
  | true =>
  have g2 : ¬ (100 : Int) < (k.size : Int) := le_of _ _ h2
  cases h3 : decide (v.size ≤ 100) with
  | false =>
    have g3 : (100 : Int) < (v.size : Int) := gt_of _ _ h3
    clear h
    try clear h1
    try clear h2
    try clear h3
    try clear h4
    go_enter Try.func47, Try.ntmps47
    go_wp2_with (go_at_call 16; refine (l1In_b _ _ _ _ H1.out _).mono ?_; rintro _ _ ⟨rfl, rfl⟩)
    go_ret
    exact ⟨rfl, below1 _ _⟩
  | true =>
  have g3 : ¬ (100 : Int) < (v.size : Int) := le_of _ _ h3
  cases h4 : decide (n ≤ 3) with
  | false =>
    have g4 : (3 : Int) < (n : Int) := gt_of _ _ h4
    clear h
    try clear h1
    try clear h2
    try clear h3
    try clear h4
    go_enter Try.func47, Try.ntmps47
    go_wp2_with (go_at_call 16; refine (l1In_b _ _ _ _ H1.out _).mono ?_; rintro _ _ ⟨rfl, rfl⟩)
    go_ret
    exact ⟨rfl, below1 _ _⟩
  | true => simp [ok0] at h h1 h2 h3 h4; omega

theorem ok0_parts {t : Int} {k v : ByteArray} {n : Nat} (h : ok0 t k v n = true) : (decide (0 ≤ t) && decide (t ≤ 1000000000000)) = true ∧ decide (k.size ≤ 100) = true ∧ decide (v.size ≤ 100) = true ∧ decide (n ≤ 3) = true := by
  simp only [ok0, Bool.and_eq_true] at h ⊢
  exact ⟨h.1.1.1, h.1.1.2, h.1.2, h.2⟩
set_option maxHeartbeats 800000 in
theorem spec_no1 (t : Int) (kd : Bool) (k : ByteArray) (gn : Bool) (v : ByteArray) (A : Option Addr) (n c : Nat) (w : World) (h0 : ok0 t k v n = true) (h : ok1 kd k gn v = false) :
    Calls Try.prog 47 #[rv t kd k gn v (.slice A n c)] w fun e w' => e = .returned (.bool false) ∧ Below w.heap.size w w' := by
  unfold rv
  obtain ⟨a1, a2, a3, a4⟩ := ok0_parts h0
  have H1 := Seg.hid a1
  have g2 : ¬ (100 : Int) < (k.size : Int) := le_of _ _ a2
  have g3 : ¬ (100 : Int) < (v.size : Int) := le_of _ _ a3
  have g4 : ¬ (3 : Int) < (n : Int) := le_of _ _ a4
  clear a1 a2 a3 a4 h0
  cases e1 : (kd || k.toList.isEmpty) with
  | false =>
    obtain ⟨rfl, hk⟩ := Bool.or_eq_false_iff.1 e1
    clear e1 h
    go_enter Try.func47, Try.ntmps47
    go_wp2_with (go_at_call 16; refine (l1In_b _ _ _ _ H1.out _).mono ?_; rintro _ _ ⟨rfl, rfl⟩)
    go_ret
    exact ⟨rfl, below1 _ _⟩
  | true =>
    have e2 : (!gn || v.toList.isEmpty) = false := by rw [ok1, e1] at h; simpa using h
    obtain ⟨hg, hv⟩ := Bool.or_eq_false_iff.1 e2
    obtain rfl : gn = true := by simpa using hg
    clear e2 h hg
    cases kd with
    | true =>
      clear e1
      go_enter Try.func47, Try.ntmps47
      go_wp2_with (go_at_call 16; refine (l1In_b _ _ _ _ H1.out _).mono ?_; rintro _ _ ⟨rfl, rfl⟩)
      go_ret
      exact ⟨rfl, below1 _ _⟩
    | false =>
      have hk : k.toList.isEmpty = true := by simpa using e1
      clear e1
      go_enter Try.func47, Try.ntmps47
      go_wp2_with (go_at_call 16; refine (l1In_b _ _ _ _ H1.out _).mono ?_; rintro _ _ ⟨rfl, rfl⟩)
      go_ret
      exact ⟨rfl, below1 _ _⟩

/-- The block that holds the record which came in, and its list of Heads. -/
def Par (wr : World) (p tp : Nat) (u : Value) : Prop := ∃ cs : Array Value, wr.heap[p]? = some (.cells cs tp (0, 0)) ∧ cs[5]? = some u
theorem Par.cell {wr : World} {p tp : Nat} {u : Value} (h : Par wr p tp u) : wr.cell? ⟨p, 5, none⟩ = some u := by
  obtain ⟨cs, h1, h2⟩ := h
  rw [cell_of_row wr p 5 cs tp (0, 0) h1, h2]
theorem Par.alloc {wr : World} {p tp : Nat} {u : Value} (h : Par wr p tp u) (o : Obj) : Par (wr.alloc o) p tp u := by
  obtain ⟨cs, h1, h2⟩ := h
  exact ⟨cs, by rw [heap_alloc_old wr o (Array.getElem?_eq_some_iff.1 h1).1]; exact h1, h2⟩
theorem Par.below {wr w' : World} {p tp b : Nat} {u : Value} (h : Par wr p tp u) (hb : Below b wr w') (hp : p < b) : Par w' p tp u := by
  obtain ⟨cs, h1, h2⟩ := h
  exact ⟨cs, by rw [hb.block p hp]; exact h1, h2⟩
/-- The heads lie there. -/
def Lies (w : World) (A : Option Addr) (n c : Nat) (K V : Nat → ByteArray) : Prop :=
  n = 0 ∨ ∃ g o, A = some ⟨g, o, none⟩ ∧ g < w.heap.size ∧ n ≤ c ∧ ∀ i, i < n → w.cell? ⟨g, o + i * 2, none⟩ = some (.string (K i)) ∧ w.cell? ⟨g, o + i * 2 + 1, none⟩ = some (.string (V i))
def okKV (K V : Nat → ByteArray) (i : Nat) : Bool := !(K i).toList.isEmpty && decide ((K i).size ≤ 100) && decide ((V i).size ≤ 100)

structure Tells (e : Ending) (n : Nat) (K V : Nat → ByteArray) : Prop where
  tells : ∃ b, e = .returned (.bool b) ∧ ((b = true ∧ ∀ i, i < n → okKV K V i = true) ∨ (b = false ∧ ∃ i, i < n ∧ okKV K V i = false))
theorem Tells.bad {n j : Nat} {K V : Nat → ByteArray} (h : j < n) (hb : okKV K V j = false) : Tells (.returned (.bool false)) n K V := ⟨false, rfl, .inr ⟨rfl, j, h, hb⟩⟩
theorem Tells.good {n : Nat} {K V : Nat → ByteArray} (h : ∀ i, i < n → okKV K V i = true) : Tells (.returned (.bool true)) n K V := ⟨true, rfl, .inl ⟨rfl, h⟩⟩
set_option maxHeartbeats 800000 in
theorem spec_yes (t : Int) (kd : Bool) (k : ByteArray) (gn : Bool) (v : ByteArray) (A : Option Addr) (n c : Nat) (K V : Nat → ByteArray) (w : World) (h0 : ok0 t k v n = true) (h : ok1 kd k gn v = true) (hl : Lies w A n c K V) :
    Calls Try.prog 47 #[rv t kd k gn v (.slice A n c)] w fun e w' => Tells e n K V ∧ Below w.heap.size w w' := by
  unfold rv
  obtain ⟨a1, a2, a3, a4⟩ := ok0_parts h0
  have H1 := Seg.hid a1
  have HL := Seg.hid hl
  have g2 : ¬ (100 : Int) < (k.size : Int) := le_of _ _ a2
  have g3 : ¬ (100 : Int) < (v.size : Int) := le_of _ _ a3
  have g4 : ¬ (3 : Int) < (n : Int) := le_of _ _ a4
  clear a1 a2 a3 a4 h0 hl
  obtain ⟨e1, e2⟩ : (kd || k.toList.isEmpty) = true ∧ (!gn || v.toList.isEmpty) = true := by simpa [ok1] using h
  clear h
  cases kd <;> cases gn
  all_goals
    simp only [Bool.false_or, Bool.true_or, Bool.not_false, Bool.not_true] at e1 e2
    go_enter Try.func47, Try.ntmps47
    go_wp2_with (go_at_call 16; refine (l1In_b _ _ _ _ H1.out _).mono ?_; rintro _ _ ⟨rfl, rfl⟩)
    go_loopw [3] (fun i wr => ∃ j : Nat, j ≤ n ∧ i = .int .i64 j ∧ Hid (Par wr w.heap.size 60 (.slice A n c) ∧ Below w.heap.size w wr ∧ ∀ i, i < j → okKV K V i = true)) (fun i _ => n - (intOf i).toNat)
    case atStart => exact ⟨0, Nat.zero_le _, rfl, ⟨_, heap_alloc_new _ _, rfl⟩, below1 _ _, fun i hi => absurd hi (by omega)⟩
    case round =>
      obtain ⟨j, hj, rfl, HR⟩ := hrel
      have p5 := HR.out.1.cell
      by_cases hlt : j < n
      · obtain ⟨g, o, rfl, hg, hc, ha⟩ := HL.out.resolve_left (by omega)
        have c1 : wr.cell? ⟨g, o + j * 2, none⟩ = some (.string (K j)) := by rw [HR.out.2.1.cell (p := ⟨g, o + j * 2, none⟩) hg]; exact (ha j hlt).1
        have c2 : wr.cell? ⟨g, o + j * 2 + 1, none⟩ = some (.string (V j)) := by rw [HR.out.2.1.cell (p := ⟨g, o + j * 2 + 1, none⟩) hg]; exact (ha j hlt).2
        have HA := Seg.hid ha
        clear ha
        have i0 : (0 : Int) ≤ (j : Int) := by omega
        have i1 : (j : Int) < (n : Int) := by omega
        cases hE : (K j).toList.isEmpty with
        | true =>
          go_wp2
          go_ret
          exact ⟨Tells.bad hlt (by simp [okKV, hE]), HR.out.2.1.alloc HR.out.2.1.size _⟩
        | false =>
        by_cases hK : (100 : Int) < ((K j).size : Int)
        · go_wp2
          go_ret
          exact ⟨Tells.bad hlt (by simp [okKV]; omega), HR.out.2.1.alloc HR.out.2.1.size _⟩
        by_cases hV : (100 : Int) < ((V j).size : Int)
        · go_wp2
          go_ret
          exact ⟨Tells.bad hlt (by simp [okKV]; omega), HR.out.2.1.alloc HR.out.2.1.size _⟩
        go_wp2
        go_roundw
        case rel =>
          refine ⟨j + 1, by omega, by go_num, HR.out.1.alloc _, HR.out.2.1.alloc HR.out.2.1.size _, fun i hi => ?_⟩
          by_cases he : i = j
          · subst he; simp only [okKV, hE]; simp; omega
          · exact HR.out.2.2 i (by omega)
        case measure => simp [intOf]; omega
      · obtain rfl : j = n := by omega
        go_wp2
        go_ret
        exact ⟨Tells.good HR.out.2.2, HR.out.2.1⟩
end Go.Proofs.Ytidpjoffacmgmaa.ROk
