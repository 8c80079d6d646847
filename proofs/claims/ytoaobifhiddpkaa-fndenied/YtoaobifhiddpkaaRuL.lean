/- A rule's line and the rules' text, as the model writes them. -/
import Derived.Test.YtoaobifhiddpkaaRuS
import Derived.Test.YtoaobifhiddpkaaHdK
namespace Go.Proofs.Ytoaobifhiddpkaa.RuS
set_option maxRecDepth 8000
open Go.RowKit
open Ls Lp RuP HdK
open Recs (hsz below1 below2 chain)
set_option linter.unusedVariables false
set_option maxHeartbeats 6400000 in
theorem line_core (r : Rul) (w : World) (ok : okR r = true) (d : Bool) (hd : r.deny = d) :
    Calls Try.prog 19 #[.agg (rrow r)] w fun e w' => e = .returned (.string (line r)) ∧ Below w.heap.size w w' := by
  have s1 : r.who.size ≤ 20 := by simp only [okR, Bool.and_eq_true] at ok; exact who_small ok.1
  have s2 : r.name.size ≤ 20 := by simp only [okR, Bool.and_eq_true] at ok; exact nm_small ok.2.2.2
  have s3 := may_small r.may
  have s4 := on_small r.on
  have m1 : 1 ≤ r.may ∧ r.may ≤ 4 := by simp only [okR, Bool.and_eq_true] at ok; exact inR_true ok.2.1
  have m2 : 1 ≤ r.on ∧ r.on ≤ 2 := by simp only [okR, Bool.and_eq_true] at ok; exact inR_true ok.2.2.1
  have m3 : (0 : Int) ≤ r.may := by omega
  have m4 : r.may < (5 : Int) := by omega
  have m5 : (0 : Int) ≤ r.on := by omega
  have m6 : r.on < (3 : Int) := by omega
  have HB : Hid (headT r.deny = headT d) := by show _ = _; rw [hd]
  have CM : Hid (∀ wx, Calls Try.prog 27 #[] wx fun e w' => e = .returned (.slice (some ⟨wx.heap.size, 0, none⟩) 5 5) ∧ w'.cell? ⟨wx.heap.size, r.may.toNat, none⟩ = some (.string (mayT r.may)) ∧ wx.heap.size < w'.heap.size ∧ Below wx.heap.size wx w') := fun wx => (may_any wx).mono fun e w' ⟨a, b, c, d⟩ => ⟨a, b _ (by omega), c, d⟩
  have CO : Hid (∀ wx, Calls Try.prog 28 #[] wx fun e w' => e = .returned (.slice (some ⟨wx.heap.size, 0, none⟩) 3 3) ∧ w'.cell? ⟨wx.heap.size, r.on.toNat, none⟩ = some (.string (onT r.on)) ∧ wx.heap.size < w'.heap.size ∧ Below wx.heap.size wx w') := fun wx => (on_any wx).mono fun e w' ⟨a, b, c, d⟩ => ⟨a, b _ (by omega), c, d⟩
  have FIN : Hid (∀ (s : ByteArray) (b : Bool), r.begins = b → s = headT d ++ r.who ++ ⟨#[32]⟩ ++ mayT r.may ++ ⟨#[32]⟩ ++ onT r.on ++ ⟨#[32]⟩ ++ r.name → (if b = true then s ++ ⟨#[42]⟩ ++ ⟨#[10]⟩ else s ++ ⟨#[10]⟩) = line r) := fun s b hb hs => by
    unfold line bodyT
    rw [HB.out, hb, hs]
  clear ok HB m1 m2
  generalize mayT r.may = mt at *
  generalize onT r.on = ot at *
  go_enter Try.func19, Try.ntmps19
  cases d
  · go_upto_region 4 with fail
    obtain ⟨w1, hw1⟩ : ∃ w1, w.alloc (.cells (rrow r) 30 (0, 0)) = w1 := ⟨_, rfl⟩
    rw [hw1]
    have R1 : Hid (w1.heap[w.heap.size]? = some (.cells (rrow r) 30 (0, 0))) := by show _ = _; rw [← hw1]; exact heap_alloc_new _ _
    have B1 : Hid (Below w.heap.size w w1) := by show Below _ _ _; rw [← hw1]; exact below1 w _
    have hl1 : w.heap.size < w1.heap.size := (Array.getElem?_eq_some_iff.1 R1.out).1
    have KA : Hid (∀ wx, Below w1.heap.size w1 wx → wx.cell? ⟨w.heap.size, 1, none⟩ = some (.string r.who) ∧ wx.cell? ⟨w.heap.size, 2, none⟩ = some (.int .i64 r.may) ∧ wx.cell? ⟨w.heap.size, 3, none⟩ = some (.int .i64 r.on) ∧ wx.cell? ⟨w.heap.size, 4, none⟩ = some (.string r.name) ∧ wx.cell? ⟨w.heap.size, 5, none⟩ = some (.bool r.begins)) := fun wx b => by
      have hR : wx.heap[w.heap.size]? = some (.cells (rrow r) 30 (0, 0)) := by rw [b.block _ hl1]; exact R1.out
      exact ⟨cell_of_row wx _ 1 _ _ (0, 0) hR, cell_of_row wx _ 2 _ _ (0, 0) hR, cell_of_row wx _ 3 _ _ (0, 0) hR, cell_of_row wx _ 4 _ _ (0, 0) hR, cell_of_row wx _ 5 _ _ (0, 0) hR⟩
    clear hw1
    obtain ⟨c1, c2, c3, c4, c5⟩ := KA.out w1 (Below.refl _ _)
    have g1 : ¬ 9223372036854775807 < 6 + r.who.size := by omega
    have g2 : ¬ 9223372036854775807 < 6 + r.who.size + 1 := by omega
    have g3 : ¬ 9223372036854775807 < 6 + r.who.size + 1 + mt.size := by omega
    have g4 : ¬ 9223372036854775807 < 6 + r.who.size + 1 + mt.size + 1 := by omega
    have g5 : ¬ 9223372036854775807 < 6 + r.who.size + 1 + mt.size + 1 + ot.size := by omega
    have g6 : ¬ 9223372036854775807 < 6 + r.who.size + 1 + mt.size + 1 + ot.size + 1 := by omega
    have g7 : ¬ 9223372036854775807 < 6 + r.who.size + 1 + mt.size + 1 + ot.size + 1 + r.name.size := by omega
    have g8 : ¬ 9223372036854775807 < 6 + r.who.size + 1 + mt.size + 1 + ot.size + 1 + r.name.size + 1 := by omega
    have g9 : ¬ 9223372036854775807 < 6 + r.who.size + 1 + mt.size + 1 + ot.size + 1 + r.name.size + 1 + 1 := by omega
    have ST : Hid (∀ wx, Below w1.heap.size w1 wx → wx.cell? ⟨w.heap.size, 1, none⟩ = some (.string r.who) ∧ wx.cell? ⟨w.heap.size, 2, none⟩ = some (.int .i64 r.may) ∧ wx.cell? ⟨w.heap.size, 3, none⟩ = some (.int .i64 r.on) ∧ wx.cell? ⟨w.heap.size, 4, none⟩ = some (.string r.name)) := fun wx b => by obtain ⟨a1, a2, a3, a4, _⟩ := KA.out wx b; exact ⟨a1, a2, a3, a4⟩
    rename_i K0 aK0
    have J : ∀ (x6 x7 x8 x9 x10 x11 x12 x13 x14 x15 x16 x17 x18 x19 x20 x21 x22 x23 x24 x25 x26 x27 : Value) (wx : World), Below w1.heap.size w1 wx → K0 { tmps := #[.agg (rrow r), .pointer (some ⟨w.heap.size, 0, none⟩), .string ⟨#[]⟩, .string ((⟨#[97, 108, 108, 111, 119, 32]⟩ : ByteArray) ++ r.who ++ ⟨#[32]⟩ ++ mt ++ ⟨#[32]⟩ ++ ot ++ ⟨#[32]⟩ ++ r.name), .pointer (some ⟨w.heap.size, 0, none⟩), .bool false, x6, x7, x8, x9, x10, x11, x12, x13, x14, x15, x16, x17, x18, x19, x20, x21, x22, x23, x24, x25, x26, x27, undef, undef, undef, undef, undef, undef], defers := [] } wx := by
      intro x6 x7 x8 x9 x10 x11 x12 x13 x14 x15 x16 x17 x18 x19 x20 x21 x22 x23 x24 x25 x26 x27 wx bx
      obtain ⟨_, _, _, _, q5⟩ := KA.out wx bx
      have BX := Seg.hid (chain B1.out bx)
      have hz : ((⟨#[97, 108, 108, 111, 119, 32]⟩ : ByteArray) ++ r.who ++ ⟨#[32]⟩ ++ mt ++ ⟨#[32]⟩ ++ ot ++ ⟨#[32]⟩ ++ r.name).size = 6 + r.who.size + 1 + mt.size + 1 + ot.size + 1 + r.name.size := by simp only [ByteArray.size_append, s32]; rfl
      have FI : Hid (∀ b, r.begins = b → (if b = true then ((⟨#[97, 108, 108, 111, 119, 32]⟩ : ByteArray) ++ r.who ++ ⟨#[32]⟩ ++ mt ++ ⟨#[32]⟩ ++ ot ++ ⟨#[32]⟩ ++ r.name) ++ ⟨#[42]⟩ ++ ⟨#[10]⟩ else ((⟨#[97, 108, 108, 111, 119, 32]⟩ : ByteArray) ++ r.who ++ ⟨#[32]⟩ ++ mt ++ ⟨#[32]⟩ ++ ot ++ ⟨#[32]⟩ ++ r.name) ++ ⟨#[10]⟩) = line r) := fun b hb => FIN.out _ b hb (by rfl)
      clear bx g1 g2 g3 g4 g5 g6 g7 KA ST CM CO FIN
      generalize (⟨#[97, 108, 108, 111, 119, 32]⟩ : ByteArray) ++ r.who ++ ⟨#[32]⟩ ++ mt ++ ⟨#[32]⟩ ++ ot ++ ⟨#[32]⟩ ++ r.name = s at *
      have z1 : ¬ 9223372036854775807 < s.size + 1 := by omega
      have z2 : ¬ 9223372036854775807 < s.size + 1 + 1 := by omega
      clear hz g8 g9
      refine aK0 _ _ ?_
      clear aK0
      cases hb : r.begins with
      | false =>
        have Z : Hid (s ++ ⟨#[10]⟩ = line r) := by show _ = _; have := FI.out false hb; simpa using this
        rw [hb] at q5
        go_wp2
        go_ret
        exact ⟨by rw [← Z.out]; rfl, BX.out⟩
      | true =>
        have Z : Hid (s ++ ⟨#[42]⟩ ++ ⟨#[10]⟩ = line r) := by show _ = _; have := FI.out true hb; simpa using this
        rw [hb] at q5
        go_wp2
        go_ret
        exact ⟨by rw [← Z.out]; rfl, BX.out⟩
    clear aK0
    refine wp_region_held_drew (S := (fun w' => w'.cell? ⟨w.heap.size, 1, none⟩ = some (.string r.who) ∧ w'.cell? ⟨w.heap.size, 2, none⟩ = some (.int .i64 r.may) ∧ w'.cell? ⟨w.heap.size, 3, none⟩ = some (.int .i64 r.on) ∧ w'.cell? ⟨w.heap.size, 4, none⟩ = some (.string r.name))) (by kernel_rfl) (ST.out _ (Below.refl _ _).drew) (fun hHeld => ?_)
    refine tke 0 (some 6) (.string (⟨#[97, 108, 108, 111, 119, 32]⟩ : ByteArray)) rfl rfl ?_
    try simp only [Act.put, List.setIfInBounds_toArray, List.set_cons_zero, List.set_cons_succ]
    refine tke 1 (some 7) (.pointer (some ⟨w.heap.size, 1, none⟩)) rfl rfl ?_
    try simp only [Act.put, List.setIfInBounds_toArray, List.set_cons_zero, List.set_cons_succ]
    refine tke 2 (some 8) (.string r.who) rfl rfl ?_
    try simp only [Act.put, List.setIfInBounds_toArray, List.set_cons_zero, List.set_cons_succ]
    refine tke 3 (some 9) (.string ((⟨#[97, 108, 108, 111, 119, 32]⟩ : ByteArray) ++ r.who)) rfl rfl ?_
    try simp only [Act.put, List.setIfInBounds_toArray, List.set_cons_zero, List.set_cons_succ]
    refine tke 4 (some 10) (.string ((⟨#[97, 108, 108, 111, 119, 32]⟩ : ByteArray) ++ r.who ++ ⟨#[32]⟩)) rfl rfl ?_
    try simp only [Act.put, List.setIfInBounds_toArray, List.set_cons_zero, List.set_cons_succ]
    refine tke 6 (some 12) (.pointer (some ⟨w.heap.size, 2, none⟩)) rfl rfl ?_
    try simp only [Act.put, List.setIfInBounds_toArray, List.set_cons_zero, List.set_cons_succ]
    refine tke 7 (some 13) (.int .i64 r.may) rfl rfl ?_
    try simp only [Act.put, List.setIfInBounds_toArray, List.set_cons_zero, List.set_cons_succ]
    refine tke 13 (some 19) (.pointer (some ⟨w.heap.size, 3, none⟩)) rfl rfl ?_
    try simp only [Act.put, List.setIfInBounds_toArray, List.set_cons_zero, List.set_cons_succ]
    refine tke 14 (some 20) (.int .i64 r.on) rfl rfl ?_
    try simp only [Act.put, List.setIfInBounds_toArray, List.set_cons_zero, List.set_cons_succ]
    refine tke 19 (some 25) (.pointer (some ⟨w.heap.size, 4, none⟩)) rfl rfl ?_
    try simp only [Act.put, List.setIfInBounds_toArray, List.set_cons_zero, List.set_cons_succ]
    refine tke 20 (some 26) (.string r.name) rfl rfl ?_
    try simp only [Act.put, List.setIfInBounds_toArray, List.set_cons_zero, List.set_cons_succ]
    refine wpAnyH_ready (rs := [5]) (by kernel_rfl) (by simp) ?_
    refine AllReadyH.cons (o := { dst := some 11, op := Op.call { callee := Callee.value (Operand.func 27), args := #[], argTypes := #[] }, type := 42, pos := "l11_access.go:21", after := #[], guard := none }) rfl (fun K hK => ?_) AllReadyH.nil
    (go_simp; go_at_call 27; refine (CM.out _).mono ?_; rintro e w8 ⟨rfl, x8, l8, b8⟩; have BM : Hid (Below w1.heap.size w1 w8) := ⟨b8.os, b8.tape, b8.output, b8.size, b8.block⟩; have X8 : w8.cell? ⟨w1.heap.size, r.may.toNat, none⟩ = some (.string mt) := x8; have L8 : w1.heap.size < w8.heap.size := l8; clear b8 x8 l8; try (go_wp2_with fail))
    refine hK.out _ _ (ST.out _ BM.out) (fun hHeld => ?_)
    clear hK K
    try simp only [Act.put, List.setIfInBounds_toArray, List.set_cons_zero, List.set_cons_succ]
    refine tke 8 (some 14) (.pointer (some ⟨w1.heap.size, r.may.toNat, none⟩)) rfl rfl ?_
    try simp only [Act.put, List.setIfInBounds_toArray, List.set_cons_zero, List.set_cons_succ]
    refine wpAnyH_ready (rs := [9, 12]) (by kernel_rfl) (by simp) ?_
    refine AllReadyH.cons (o := { dst := some 15, op := Op.load 9 (Operand.tmp 14), type := 9, pos := "l11_access.go:21", after := #[{ on := 8, ground := Ground.data }], guard := none }) rfl (fun K hK => ?_) (AllReadyH.cons (o := { dst := some 18, op := Op.call { callee := Callee.value (Operand.func 28), args := #[], argTypes := #[] }, type := 42, pos := "l11_access.go:21", after := #[{ on := 5, ground := Ground.chain }], guard := none }) rfl (fun K hK => ?_) AllReadyH.nil)
    · (go_simp; try (go_wp2_with fail))
      refine hK.out _ _ (ST.out _ BM.out) (fun hHeld => ?_)
      clear hK K
      try simp only [Act.put, List.setIfInBounds_toArray, List.set_cons_zero, List.set_cons_succ]
      refine tke 10 (some 16) (.string ((⟨#[97, 108, 108, 111, 119, 32]⟩ : ByteArray) ++ r.who ++ ⟨#[32]⟩ ++ mt)) rfl rfl ?_
      try simp only [Act.put, List.setIfInBounds_toArray, List.set_cons_zero, List.set_cons_succ]
      refine tke 11 (some 17) (.string ((⟨#[97, 108, 108, 111, 119, 32]⟩ : ByteArray) ++ r.who ++ ⟨#[32]⟩ ++ mt ++ ⟨#[32]⟩)) rfl rfl ?_
      try simp only [Act.put, List.setIfInBounds_toArray, List.set_cons_zero, List.set_cons_succ]
      refine wpAnyH_ready (rs := [12]) (by kernel_rfl) (by simp) ?_
      refine AllReadyH.cons (o := { dst := some 18, op := Op.call { callee := Callee.value (Operand.func 28), args := #[], argTypes := #[] }, type := 42, pos := "l11_access.go:21", after := #[{ on := 5, ground := Ground.chain }], guard := none }) rfl (fun K hK => ?_) AllReadyH.nil
      (go_simp; go_at_call 28; refine (CO.out _).mono ?_; rintro e w9 ⟨rfl, x9, l9, b9⟩; have bo : Below w8.heap.size w8 w9 := ⟨b9.os, b9.tape, b9.output, b9.size, b9.block⟩; have BO : Hid (Below w1.heap.size w1 w9) := chain BM.out bo; have X9 : w9.cell? ⟨w8.heap.size, r.on.toNat, none⟩ = some (.string ot) := x9; have X7 : w9.cell? ⟨w1.heap.size, r.may.toNat, none⟩ = some (.string mt) := (bo.cell (p := ⟨w1.heap.size, r.may.toNat, none⟩) L8).trans X8; clear b9 x9 l9 bo; try (go_wp2_with fail))
      refine hK.out _ _ (ST.out _ BO.out) (fun hHeld => ?_)
      clear hK K
      try simp only [Act.put, List.setIfInBounds_toArray, List.set_cons_zero, List.set_cons_succ]
      refine tke 15 (some 21) (.pointer (some ⟨w8.heap.size, r.on.toNat, none⟩)) rfl rfl ?_
      try simp only [Act.put, List.setIfInBounds_toArray, List.set_cons_zero, List.set_cons_succ]
      refine wpAnyH_ready (rs := [16]) (by kernel_rfl) (by simp) ?_
      refine AllReadyH.cons (o := { dst := some 22, op := Op.load 9 (Operand.tmp 21), type := 9, pos := "l11_access.go:21", after := #[{ on := 15, ground := Ground.data }], guard := none }) rfl (fun K hK => ?_) AllReadyH.nil
      (go_simp; try (go_wp2_with fail))
      refine hK.out _ _ (ST.out _ BO.out) (fun hHeld => ?_)
      clear hK K
      try simp only [Act.put, List.setIfInBounds_toArray, List.set_cons_zero, List.set_cons_succ]
      refine tke 17 (some 23) (.string ((⟨#[97, 108, 108, 111, 119, 32]⟩ : ByteArray) ++ r.who ++ ⟨#[32]⟩ ++ mt ++ ⟨#[32]⟩ ++ ot)) rfl rfl ?_
      try simp only [Act.put, List.setIfInBounds_toArray, List.set_cons_zero, List.set_cons_succ]
      refine tke 18 (some 24) (.string ((⟨#[97, 108, 108, 111, 119, 32]⟩ : ByteArray) ++ r.who ++ ⟨#[32]⟩ ++ mt ++ ⟨#[32]⟩ ++ ot ++ ⟨#[32]⟩)) rfl rfl ?_
      try simp only [Act.put, List.setIfInBounds_toArray, List.set_cons_zero, List.set_cons_succ]
      refine tke 21 (some 27) (.string ((⟨#[97, 108, 108, 111, 119, 32]⟩ : ByteArray) ++ r.who ++ ⟨#[32]⟩ ++ mt ++ ⟨#[32]⟩ ++ ot ++ ⟨#[32]⟩ ++ r.name)) rfl rfl ?_
      try simp only [Act.put, List.setIfInBounds_toArray, List.set_cons_zero, List.set_cons_succ]
      refine tke 22 (some 3) (.string ((⟨#[97, 108, 108, 111, 119, 32]⟩ : ByteArray) ++ r.who ++ ⟨#[32]⟩ ++ mt ++ ⟨#[32]⟩ ++ ot ++ ⟨#[32]⟩ ++ r.name)) rfl rfl ?_
      try simp only [Act.put, List.setIfInBounds_toArray, List.set_cons_zero, List.set_cons_succ]
      refine wpAnyH_done (by kernel_rfl) ?_ _
      exact J _ _ _ _ _ _ _ _ _ _ _ _ _ _ _ _ _ _ _ _ _ _ _ BO.out
    · (go_simp; go_at_call 28; refine (CO.out _).mono ?_; rintro e w9 ⟨rfl, x9, l9, b9⟩; have bo : Below w8.heap.size w8 w9 := ⟨b9.os, b9.tape, b9.output, b9.size, b9.block⟩; have BO : Hid (Below w1.heap.size w1 w9) := chain BM.out bo; have X9 : w9.cell? ⟨w8.heap.size, r.on.toNat, none⟩ = some (.string ot) := x9; have X7 : w9.cell? ⟨w1.heap.size, r.may.toNat, none⟩ = some (.string mt) := (bo.cell (p := ⟨w1.heap.size, r.may.toNat, none⟩) L8).trans X8; clear b9 x9 l9 bo; try (go_wp2_with fail))
      refine hK.out _ _ (ST.out _ BO.out) (fun hHeld => ?_)
      clear hK K
      try simp only [Act.put, List.setIfInBounds_toArray, List.set_cons_zero, List.set_cons_succ]
      refine tke 15 (some 21) (.pointer (some ⟨w8.heap.size, r.on.toNat, none⟩)) rfl rfl ?_
      try simp only [Act.put, List.setIfInBounds_toArray, List.set_cons_zero, List.set_cons_succ]
      refine wpAnyH_ready (rs := [9, 16]) (by kernel_rfl) (by simp) ?_
      refine AllReadyH.cons (o := { dst := some 15, op := Op.load 9 (Operand.tmp 14), type := 9, pos := "l11_access.go:21", after := #[{ on := 8, ground := Ground.data }], guard := none }) rfl (fun K hK => ?_) (AllReadyH.cons (o := { dst := some 22, op := Op.load 9 (Operand.tmp 21), type := 9, pos := "l11_access.go:21", after := #[{ on := 15, ground := Ground.data }], guard := none }) rfl (fun K hK => ?_) AllReadyH.nil)
      · (go_simp; try (go_wp2_with fail))
        refine hK.out _ _ (ST.out _ BO.out) (fun hHeld => ?_)
        clear hK K
        try simp only [Act.put, List.setIfInBounds_toArray, List.set_cons_zero, List.set_cons_succ]
        refine tke 10 (some 16) (.string ((⟨#[97, 108, 108, 111, 119, 32]⟩ : ByteArray) ++ r.who ++ ⟨#[32]⟩ ++ mt)) rfl rfl ?_
        try simp only [Act.put, List.setIfInBounds_toArray, List.set_cons_zero, List.set_cons_succ]
        refine tke 11 (some 17) (.string ((⟨#[97, 108, 108, 111, 119, 32]⟩ : ByteArray) ++ r.who ++ ⟨#[32]⟩ ++ mt ++ ⟨#[32]⟩)) rfl rfl ?_
        try simp only [Act.put, List.setIfInBounds_toArray, List.set_cons_zero, List.set_cons_succ]
        refine wpAnyH_ready (rs := [16]) (by kernel_rfl) (by simp) ?_
        refine AllReadyH.cons (o := { dst := some 22, op := Op.load 9 (Operand.tmp 21), type := 9, pos := "l11_access.go:21", after := #[{ on := 15, ground := Ground.data }], guard := none }) rfl (fun K hK => ?_) AllReadyH.nil
        (go_simp; try (go_wp2_with fail))
        refine hK.out _ _ (ST.out _ BO.out) (fun hHeld => ?_)
        clear hK K
        try simp only [Act.put, List.setIfInBounds_toArray, List.set_cons_zero, List.set_cons_succ]
        refine tke 17 (some 23) (.string ((⟨#[97, 108, 108, 111, 119, 32]⟩ : ByteArray) ++ r.who ++ ⟨#[32]⟩ ++ mt ++ ⟨#[32]⟩ ++ ot)) rfl rfl ?_
        try simp only [Act.put, List.setIfInBounds_toArray, List.set_cons_zero, List.set_cons_succ]
        refine tke 18 (some 24) (.string ((⟨#[97, 108, 108, 111, 119, 32]⟩ : ByteArray) ++ r.who ++ ⟨#[32]⟩ ++ mt ++ ⟨#[32]⟩ ++ ot ++ ⟨#[32]⟩)) rfl rfl ?_
        try simp only [Act.put, List.setIfInBounds_toArray, List.set_cons_zero, List.set_cons_succ]
        refine tke 21 (some 27) (.string ((⟨#[97, 108, 108, 111, 119, 32]⟩ : ByteArray) ++ r.who ++ ⟨#[32]⟩ ++ mt ++ ⟨#[32]⟩ ++ ot ++ ⟨#[32]⟩ ++ r.name)) rfl rfl ?_
        try simp only [Act.put, List.setIfInBounds_toArray, List.set_cons_zero, List.set_cons_succ]
        refine tke 22 (some 3) (.string ((⟨#[97, 108, 108, 111, 119, 32]⟩ : ByteArray) ++ r.who ++ ⟨#[32]⟩ ++ mt ++ ⟨#[32]⟩ ++ ot ++ ⟨#[32]⟩ ++ r.name)) rfl rfl ?_
        try simp only [Act.put, List.setIfInBounds_toArray, List.set_cons_zero, List.set_cons_succ]
        refine wpAnyH_done (by kernel_rfl) ?_ _
        exact J _ _ _ _ _ _ _ _ _ _ _ _ _ _ _ _ _ _ _ _ _ _ _ BO.out
      · (go_simp; try (go_wp2_with fail))
        refine hK.out _ _ (ST.out _ BO.out) (fun hHeld => ?_)
        clear hK K
        try simp only [Act.put, List.setIfInBounds_toArray, List.set_cons_zero, List.set_cons_succ]
        refine wpAnyH_ready (rs := [9]) (by kernel_rfl) (by simp) ?_
        refine AllReadyH.cons (o := { dst := some 15, op := Op.load 9 (Operand.tmp 14), type := 9, pos := "l11_access.go:21", after := #[{ on := 8, ground := Ground.data }], guard := none }) rfl (fun K hK => ?_) AllReadyH.nil
        (go_simp; try (go_wp2_with fail))
        refine hK.out _ _ (ST.out _ BO.out) (fun hHeld => ?_)
        clear hK K
        try simp only [Act.put, List.setIfInBounds_toArray, List.set_cons_zero, List.set_cons_succ]
        refine tke 10 (some 16) (.string ((⟨#[97, 108, 108, 111, 119, 32]⟩ : ByteArray) ++ r.who ++ ⟨#[32]⟩ ++ mt)) rfl rfl ?_
        try simp only [Act.put, List.setIfInBounds_toArray, List.set_cons_zero, List.set_cons_succ]
        refine tke 11 (some 17) (.string ((⟨#[97, 108, 108, 111, 119, 32]⟩ : ByteArray) ++ r.who ++ ⟨#[32]⟩ ++ mt ++ ⟨#[32]⟩)) rfl rfl ?_
        try simp only [Act.put, List.setIfInBounds_toArray, List.set_cons_zero, List.set_cons_succ]
        refine tke 17 (some 23) (.string ((⟨#[97, 108, 108, 111, 119, 32]⟩ : ByteArray) ++ r.who ++ ⟨#[32]⟩ ++ mt ++ ⟨#[32]⟩ ++ ot)) rfl rfl ?_
        try simp only [Act.put, List.setIfInBounds_toArray, List.set_cons_zero, List.set_cons_succ]
        refine tke 18 (some 24) (.string ((⟨#[97, 108, 108, 111, 119, 32]⟩ : ByteArray) ++ r.who ++ ⟨#[32]⟩ ++ mt ++ ⟨#[32]⟩ ++ ot ++ ⟨#[32]⟩)) rfl rfl ?_
        try simp only [Act.put, List.setIfInBounds_toArray, List.set_cons_zero, List.set_cons_succ]
        refine tke 21 (some 27) (.string ((⟨#[97, 108, 108, 111, 119, 32]⟩ : ByteArray) ++ r.who ++ ⟨#[32]⟩ ++ mt ++ ⟨#[32]⟩ ++ ot ++ ⟨#[32]⟩ ++ r.name)) rfl rfl ?_
        try simp only [Act.put, List.setIfInBounds_toArray, List.set_cons_zero, List.set_cons_succ]
        refine tke 22 (some 3) (.string ((⟨#[97, 108, 108, 111, 119, 32]⟩ : ByteArray) ++ r.who ++ ⟨#[32]⟩ ++ mt ++ ⟨#[32]⟩ ++ ot ++ ⟨#[32]⟩ ++ r.name)) rfl rfl ?_
        try simp only [Act.put, List.setIfInBounds_toArray, List.set_cons_zero, List.set_cons_succ]
        refine wpAnyH_done (by kernel_rfl) ?_ _
        exact J _ _ _ _ _ _ _ _ _ _ _ _ _ _ _ _ _ _ _ _ _ _ _ BO.out
  · go_upto_region 4 with fail
    obtain ⟨w1, hw1⟩ : ∃ w1, w.alloc (.cells (rrow r) 30 (0, 0)) = w1 := ⟨_, rfl⟩
    rw [hw1]
    have R1 : Hid (w1.heap[w.heap.size]? = some (.cells (rrow r) 30 (0, 0))) := by show _ = _; rw [← hw1]; exact heap_alloc_new _ _
    have B1 : Hid (Below w.heap.size w w1) := by show Below _ _ _; rw [← hw1]; exact below1 w _
    have hl1 : w.heap.size < w1.heap.size := (Array.getElem?_eq_some_iff.1 R1.out).1
    have KA : Hid (∀ wx, Below w1.heap.size w1 wx → wx.cell? ⟨w.heap.size, 1, none⟩ = some (.string r.who) ∧ wx.cell? ⟨w.heap.size, 2, none⟩ = some (.int .i64 r.may) ∧ wx.cell? ⟨w.heap.size, 3, none⟩ = some (.int .i64 r.on) ∧ wx.cell? ⟨w.heap.size, 4, none⟩ = some (.string r.name) ∧ wx.cell? ⟨w.heap.size, 5, none⟩ = some (.bool r.begins)) := fun wx b => by
      have hR : wx.heap[w.heap.size]? = some (.cells (rrow r) 30 (0, 0)) := by rw [b.block _ hl1]; exact R1.out
      exact ⟨cell_of_row wx _ 1 _ _ (0, 0) hR, cell_of_row wx _ 2 _ _ (0, 0) hR, cell_of_row wx _ 3 _ _ (0, 0) hR, cell_of_row wx _ 4 _ _ (0, 0) hR, cell_of_row wx _ 5 _ _ (0, 0) hR⟩
    clear hw1
    obtain ⟨c1, c2, c3, c4, c5⟩ := KA.out w1 (Below.refl _ _)
    have g1 : ¬ 9223372036854775807 < 5 + r.who.size := by omega
    have g2 : ¬ 9223372036854775807 < 5 + r.who.size + 1 := by omega
    have g3 : ¬ 9223372036854775807 < 5 + r.who.size + 1 + mt.size := by omega
    have g4 : ¬ 9223372036854775807 < 5 + r.who.size + 1 + mt.size + 1 := by omega
    have g5 : ¬ 9223372036854775807 < 5 + r.who.size + 1 + mt.size + 1 + ot.size := by omega
    have g6 : ¬ 9223372036854775807 < 5 + r.who.size + 1 + mt.size + 1 + ot.size + 1 := by omega
    have g7 : ¬ 9223372036854775807 < 5 + r.who.size + 1 + mt.size + 1 + ot.size + 1 + r.name.size := by omega
    have g8 : ¬ 9223372036854775807 < 5 + r.who.size + 1 + mt.size + 1 + ot.size + 1 + r.name.size + 1 := by omega
    have g9 : ¬ 9223372036854775807 < 5 + r.who.size + 1 + mt.size + 1 + ot.size + 1 + r.name.size + 1 + 1 := by omega
    have ST : Hid (∀ wx, Below w1.heap.size w1 wx → wx.cell? ⟨w.heap.size, 1, none⟩ = some (.string r.who) ∧ wx.cell? ⟨w.heap.size, 2, none⟩ = some (.int .i64 r.may) ∧ wx.cell? ⟨w.heap.size, 3, none⟩ = some (.int .i64 r.on) ∧ wx.cell? ⟨w.heap.size, 4, none⟩ = some (.string r.name)) := fun wx b => by obtain ⟨a1, a2, a3, a4, _⟩ := KA.out wx b; exact ⟨a1, a2, a3, a4⟩
    rename_i K0 aK0
    have J : ∀ (x6 x7 x8 x9 x10 x11 x12 x13 x14 x15 x16 x17 x18 x19 x20 x21 x22 x23 x24 x25 x26 x27 : Value) (wx : World), Below w1.heap.size w1 wx → K0 { tmps := #[.agg (rrow r), .pointer (some ⟨w.heap.size, 0, none⟩), .string ⟨#[]⟩, .string ((⟨#[100, 101, 110, 121, 32]⟩ : ByteArray) ++ r.who ++ ⟨#[32]⟩ ++ mt ++ ⟨#[32]⟩ ++ ot ++ ⟨#[32]⟩ ++ r.name), .pointer (some ⟨w.heap.size, 0, none⟩), .bool true, x6, x7, x8, x9, x10, x11, x12, x13, x14, x15, x16, x17, x18, x19, x20, x21, x22, x23, x24, x25, x26, x27, undef, undef, undef, undef, undef, undef], defers := [] } wx := by
      intro x6 x7 x8 x9 x10 x11 x12 x13 x14 x15 x16 x17 x18 x19 x20 x21 x22 x23 x24 x25 x26 x27 wx bx
      obtain ⟨_, _, _, _, q5⟩ := KA.out wx bx
      have BX := Seg.hid (chain B1.out bx)
      have hz : ((⟨#[100, 101, 110, 121, 32]⟩ : ByteArray) ++ r.who ++ ⟨#[32]⟩ ++ mt ++ ⟨#[32]⟩ ++ ot ++ ⟨#[32]⟩ ++ r.name).size = 5 + r.who.size + 1 + mt.size + 1 + ot.size + 1 + r.name.size := by simp only [ByteArray.size_append, s32]; rfl
      have FI : Hid (∀ b, r.begins = b → (if b = true then ((⟨#[100, 101, 110, 121, 32]⟩ : ByteArray) ++ r.who ++ ⟨#[32]⟩ ++ mt ++ ⟨#[32]⟩ ++ ot ++ ⟨#[32]⟩ ++ r.name) ++ ⟨#[42]⟩ ++ ⟨#[10]⟩ else ((⟨#[100, 101, 110, 121, 32]⟩ : ByteArray) ++ r.who ++ ⟨#[32]⟩ ++ mt ++ ⟨#[32]⟩ ++ ot ++ ⟨#[32]⟩ ++ r.name) ++ ⟨#[10]⟩) = line r) := fun b hb => FIN.out _ b hb (by rfl)
      clear bx g1 g2 g3 g4 g5 g6 g7 KA ST CM CO FIN
      generalize (⟨#[100, 101, 110, 121, 32]⟩ : ByteArray) ++ r.who ++ ⟨#[32]⟩ ++ mt ++ ⟨#[32]⟩ ++ ot ++ ⟨#[32]⟩ ++ r.name = s at *
      have z1 : ¬ 9223372036854775807 < s.size + 1 := by omega
      have z2 : ¬ 9223372036854775807 < s.size + 1 + 1 := by omega
      clear hz g8 g9
      refine aK0 _ _ ?_
      clear aK0
      cases hb : r.begins with
      | false =>
        have Z : Hid (s ++ ⟨#[10]⟩ = line r) := by show _ = _; have := FI.out false hb; simpa using this
        rw [hb] at q5
        go_wp2
        go_ret
        exact ⟨by rw [← Z.out]; rfl, BX.out⟩
      | true =>
        have Z : Hid (s ++ ⟨#[42]⟩ ++ ⟨#[10]⟩ = line r) := by show _ = _; have := FI.out true hb; simpa using this
        rw [hb] at q5
        go_wp2
        go_ret
        exact ⟨by rw [← Z.out]; rfl, BX.out⟩
    clear aK0
    refine wp_region_held_drew (S := (fun w' => w'.cell? ⟨w.heap.size, 1, none⟩ = some (.string r.who) ∧ w'.cell? ⟨w.heap.size, 2, none⟩ = some (.int .i64 r.may) ∧ w'.cell? ⟨w.heap.size, 3, none⟩ = some (.int .i64 r.on) ∧ w'.cell? ⟨w.heap.size, 4, none⟩ = some (.string r.name))) (by kernel_rfl) (ST.out _ (Below.refl _ _).drew) (fun hHeld => ?_)
    refine tke 0 (some 6) (.string (⟨#[100, 101, 110, 121, 32]⟩ : ByteArray)) rfl rfl ?_
    try simp only [Act.put, List.setIfInBounds_toArray, List.set_cons_zero, List.set_cons_succ]
    refine tke 1 (some 7) (.pointer (some ⟨w.heap.size, 1, none⟩)) rfl rfl ?_
    try simp only [Act.put, List.setIfInBounds_toArray, List.set_cons_zero, List.set_cons_succ]
    refine tke 2 (some 8) (.string r.who) rfl rfl ?_
    try simp only [Act.put, List.setIfInBounds_toArray, List.set_cons_zero, List.set_cons_succ]
    refine tke 3 (some 9) (.string ((⟨#[100, 101, 110, 121, 32]⟩ : ByteArray) ++ r.who)) rfl rfl ?_
    try simp only [Act.put, List.setIfInBounds_toArray, List.set_cons_zero, List.set_cons_succ]
    refine tke 4 (some 10) (.string ((⟨#[100, 101, 110, 121, 32]⟩ : ByteArray) ++ r.who ++ ⟨#[32]⟩)) rfl rfl ?_
    try simp only [Act.put, List.setIfInBounds_toArray, List.set_cons_zero, List.set_cons_succ]
    refine tke 6 (some 12) (.pointer (some ⟨w.heap.size, 2, none⟩)) rfl rfl ?_
    try simp only [Act.put, List.setIfInBounds_toArray, List.set_cons_zero, List.set_cons_succ]
    refine tke 7 (some 13) (.int .i64 r.may) rfl rfl ?_
    try simp only [Act.put, List.setIfInBounds_toArray, List.set_cons_zero, List.set_cons_succ]
    refine tke 13 (some 19) (.pointer (some ⟨w.heap.size, 3, none⟩)) rfl rfl ?_
    try simp only [Act.put, List.setIfInBounds_toArray, List.set_cons_zero, List.set_cons_succ]
    refine tke 14 (some 20) (.int .i64 r.on) rfl rfl ?_
    try simp only [Act.put, List.setIfInBounds_toArray, List.set_cons_zero, List.set_cons_succ]
    refine tke 19 (some 25) (.pointer (some ⟨w.heap.size, 4, none⟩)) rfl rfl ?_
    try simp only [Act.put, List.setIfInBounds_toArray, List.set_cons_zero, List.set_cons_succ]
    refine tke 20 (some 26) (.string r.name) rfl rfl ?_
    try simp only [Act.put, List.setIfInBounds_toArray, List.set_cons_zero, List.set_cons_succ]
    refine wpAnyH_ready (rs := [5]) (by kernel_rfl) (by simp) ?_
    refine AllReadyH.cons (o := { dst := some 11, op := Op.call { callee := Callee.value (Operand.func 27), args := #[], argTypes := #[] }, type := 42, pos := "l11_access.go:21", after := #[], guard := none }) rfl (fun K hK => ?_) AllReadyH.nil
    (go_simp; go_at_call 27; refine (CM.out _).mono ?_; rintro e w8 ⟨rfl, x8, l8, b8⟩; have BM : Hid (Below w1.heap.size w1 w8) := ⟨b8.os, b8.tape, b8.output, b8.size, b8.block⟩; have X8 : w8.cell? ⟨w1.heap.size, r.may.toNat, none⟩ = some (.string mt) := x8; have L8 : w1.heap.size < w8.heap.size := l8; clear b8 x8 l8; try (go_wp2_with fail))
    refine hK.out _ _ (ST.out _ BM.out) (fun hHeld => ?_)
    clear hK K
    try simp only [Act.put, List.setIfInBounds_toArray, List.set_cons_zero, List.set_cons_succ]
    refine tke 8 (some 14) (.pointer (some ⟨w1.heap.size, r.may.toNat, none⟩)) rfl rfl ?_
    try simp only [Act.put, List.setIfInBounds_toArray, List.set_cons_zero, List.set_cons_succ]
    refine wpAnyH_ready (rs := [9, 12]) (by kernel_rfl) (by simp) ?_
    refine AllReadyH.cons (o := { dst := some 15, op := Op.load 9 (Operand.tmp 14), type := 9, pos := "l11_access.go:21", after := #[{ on := 8, ground := Ground.data }], guard := none }) rfl (fun K hK => ?_) (AllReadyH.cons (o := { dst := some 18, op := Op.call { callee := Callee.value (Operand.func 28), args := #[], argTypes := #[] }, type := 42, pos := "l11_access.go:21", after := #[{ on := 5, ground := Ground.chain }], guard := none }) rfl (fun K hK => ?_) AllReadyH.nil)
    · (go_simp; try (go_wp2_with fail))
      refine hK.out _ _ (ST.out _ BM.out) (fun hHeld => ?_)
      clear hK K
      try simp only [Act.put, List.setIfInBounds_toArray, List.set_cons_zero, List.set_cons_succ]
      refine tke 10 (some 16) (.string ((⟨#[100, 101, 110, 121, 32]⟩ : ByteArray) ++ r.who ++ ⟨#[32]⟩ ++ mt)) rfl rfl ?_
      try simp only [Act.put, List.setIfInBounds_toArray, List.set_cons_zero, List.set_cons_succ]
      refine tke 11 (some 17) (.string ((⟨#[100, 101, 110, 121, 32]⟩ : ByteArray) ++ r.who ++ ⟨#[32]⟩ ++ mt ++ ⟨#[32]⟩)) rfl rfl ?_
      try simp only [Act.put, List.setIfInBounds_toArray, List.set_cons_zero, List.set_cons_succ]
      refine wpAnyH_ready (rs := [12]) (by kernel_rfl) (by simp) ?_
      refine AllReadyH.cons (o := { dst := some 18, op := Op.call { callee := Callee.value (Operand.func 28), args := #[], argTypes := #[] }, type := 42, pos := "l11_access.go:21", after := #[{ on := 5, ground := Ground.chain }], guard := none }) rfl (fun K hK => ?_) AllReadyH.nil
      (go_simp; go_at_call 28; refine (CO.out _).mono ?_; rintro e w9 ⟨rfl, x9, l9, b9⟩; have bo : Below w8.heap.size w8 w9 := ⟨b9.os, b9.tape, b9.output, b9.size, b9.block⟩; have BO : Hid (Below w1.heap.size w1 w9) := chain BM.out bo; have X9 : w9.cell? ⟨w8.heap.size, r.on.toNat, none⟩ = some (.string ot) := x9; have X7 : w9.cell? ⟨w1.heap.size, r.may.toNat, none⟩ = some (.string mt) := (bo.cell (p := ⟨w1.heap.size, r.may.toNat, none⟩) L8).trans X8; clear b9 x9 l9 bo; try (go_wp2_with fail))
      refine hK.out _ _ (ST.out _ BO.out) (fun hHeld => ?_)
      clear hK K
      try simp only [Act.put, List.setIfInBounds_toArray, List.set_cons_zero, List.set_cons_succ]
      refine tke 15 (some 21) (.pointer (some ⟨w8.heap.size, r.on.toNat, none⟩)) rfl rfl ?_
      try simp only [Act.put, List.setIfInBounds_toArray, List.set_cons_zero, List.set_cons_succ]
      refine wpAnyH_ready (rs := [16]) (by kernel_rfl) (by simp) ?_
      refine AllReadyH.cons (o := { dst := some 22, op := Op.load 9 (Operand.tmp 21), type := 9, pos := "l11_access.go:21", after := #[{ on := 15, ground := Ground.data }], guard := none }) rfl (fun K hK => ?_) AllReadyH.nil
      (go_simp; try (go_wp2_with fail))
      refine hK.out _ _ (ST.out _ BO.out) (fun hHeld => ?_)
      clear hK K
      try simp only [Act.put, List.setIfInBounds_toArray, List.set_cons_zero, List.set_cons_succ]
      refine tke 17 (some 23) (.string ((⟨#[100, 101, 110, 121, 32]⟩ : ByteArray) ++ r.who ++ ⟨#[32]⟩ ++ mt ++ ⟨#[32]⟩ ++ ot)) rfl rfl ?_
      try simp only [Act.put, List.setIfInBounds_toArray, List.set_cons_zero, List.set_cons_succ]
      refine tke 18 (some 24) (.string ((⟨#[100, 101, 110, 121, 32]⟩ : ByteArray) ++ r.who ++ ⟨#[32]⟩ ++ mt ++ ⟨#[32]⟩ ++ ot ++ ⟨#[32]⟩)) rfl rfl ?_
      try simp only [Act.put, List.setIfInBounds_toArray, List.set_cons_zero, List.set_cons_succ]
      refine tke 21 (some 27) (.string ((⟨#[100, 101, 110, 121, 32]⟩ : ByteArray) ++ r.who ++ ⟨#[32]⟩ ++ mt ++ ⟨#[32]⟩ ++ ot ++ ⟨#[32]⟩ ++ r.name)) rfl rfl ?_
      try simp only [Act.put, List.setIfInBounds_toArray, List.set_cons_zero, List.set_cons_succ]
      refine tke 22 (some 3) (.string ((⟨#[100, 101, 110, 121, 32]⟩ : ByteArray) ++ r.who ++ ⟨#[32]⟩ ++ mt ++ ⟨#[32]⟩ ++ ot ++ ⟨#[32]⟩ ++ r.name)) rfl rfl ?_
      try simp only [Act.put, List.setIfInBounds_toArray, List.set_cons_zero, List.set_cons_succ]
      refine wpAnyH_done (by kernel_rfl) ?_ _
      exact J _ _ _ _ _ _ _ _ _ _ _ _ _ _ _ _ _ _ _ _ _ _ _ BO.out
    · (go_simp; go_at_call 28; refine (CO.out _).mono ?_; rintro e w9 ⟨rfl, x9, l9, b9⟩; have bo : Below w8.heap.size w8 w9 := ⟨b9.os, b9.tape, b9.output, b9.size, b9.block⟩; have BO : Hid (Below w1.heap.size w1 w9) := chain BM.out bo; have X9 : w9.cell? ⟨w8.heap.size, r.on.toNat, none⟩ = some (.string ot) := x9; have X7 : w9.cell? ⟨w1.heap.size, r.may.toNat, none⟩ = some (.string mt) := (bo.cell (p := ⟨w1.heap.size, r.may.toNat, none⟩) L8).trans X8; clear b9 x9 l9 bo; try (go_wp2_with fail))
      refine hK.out _ _ (ST.out _ BO.out) (fun hHeld => ?_)
      clear hK K
      try simp only [Act.put, List.setIfInBounds_toArray, List.set_cons_zero, List.set_cons_succ]
      refine tke 15 (some 21) (.pointer (some ⟨w8.heap.size, r.on.toNat, none⟩)) rfl rfl ?_
      try simp only [Act.put, List.setIfInBounds_toArray, List.set_cons_zero, List.set_cons_succ]
      refine wpAnyH_ready (rs := [9, 16]) (by kernel_rfl) (by simp) ?_
      refine AllReadyH.cons (o := { dst := some 15, op := Op.load 9 (Operand.tmp 14), type := 9, pos := "l11_access.go:21", after := #[{ on := 8, ground := Ground.data }], guard := none }) rfl (fun K hK => ?_) (AllReadyH.cons (o := { dst := some 22, op := Op.load 9 (Operand.tmp 21), type := 9, pos := "l11_access.go:21", after := #[{ on := 15, ground := Ground.data }], guard := none }) rfl (fun K hK => ?_) AllReadyH.nil)
      · (go_simp; try (go_wp2_with fail))
        refine hK.out _ _ (ST.out _ BO.out) (fun hHeld => ?_)
        clear hK K
        try simp only [Act.put, List.setIfInBounds_toArray, List.set_cons_zero, List.set_cons_succ]
        refine tke 10 (some 16) (.string ((⟨#[100, 101, 110, 121, 32]⟩ : ByteArray) ++ r.who ++ ⟨#[32]⟩ ++ mt)) rfl rfl ?_
        try simp only [Act.put, List.setIfInBounds_toArray, List.set_cons_zero, List.set_cons_succ]
        refine tke 11 (some 17) (.string ((⟨#[100, 101, 110, 121, 32]⟩ : ByteArray) ++ r.who ++ ⟨#[32]⟩ ++ mt ++ ⟨#[32]⟩)) rfl rfl ?_
        try simp only [Act.put, List.setIfInBounds_toArray, List.set_cons_zero, List.set_cons_succ]
        refine wpAnyH_ready (rs := [16]) (by kernel_rfl) (by simp) ?_
        refine AllReadyH.cons (o := { dst := some 22, op := Op.load 9 (Operand.tmp 21), type := 9, pos := "l11_access.go:21", after := #[{ on := 15, ground := Ground.data }], guard := none }) rfl (fun K hK => ?_) AllReadyH.nil
        (go_simp; try (go_wp2_with fail))
        refine hK.out _ _ (ST.out _ BO.out) (fun hHeld => ?_)
        clear hK K
        try simp only [Act.put, List.setIfInBounds_toArray, List.set_cons_zero, List.set_cons_succ]
        refine tke 17 (some 23) (.string ((⟨#[100, 101, 110, 121, 32]⟩ : ByteArray) ++ r.who ++ ⟨#[32]⟩ ++ mt ++ ⟨#[32]⟩ ++ ot)) rfl rfl ?_
        try simp only [Act.put, List.setIfInBounds_toArray, List.set_cons_zero, List.set_cons_succ]
        refine tke 18 (some 24) (.string ((⟨#[100, 101, 110, 121, 32]⟩ : ByteArray) ++ r.who ++ ⟨#[32]⟩ ++ mt ++ ⟨#[32]⟩ ++ ot ++ ⟨#[32]⟩)) rfl rfl ?_
        try simp only [Act.put, List.setIfInBounds_toArray, List.set_cons_zero, List.set_cons_succ]
        refine tke 21 (some 27) (.string ((⟨#[100, 101, 110, 121, 32]⟩ : ByteArray) ++ r.who ++ ⟨#[32]⟩ ++ mt ++ ⟨#[32]⟩ ++ ot ++ ⟨#[32]⟩ ++ r.name)) rfl rfl ?_
        try simp only [Act.put, List.setIfInBounds_toArray, List.set_cons_zero, List.set_cons_succ]
        refine tke 22 (some 3) (.string ((⟨#[100, 101, 110, 121, 32]⟩ : ByteArray) ++ r.who ++ ⟨#[32]⟩ ++ mt ++ ⟨#[32]⟩ ++ ot ++ ⟨#[32]⟩ ++ r.name)) rfl rfl ?_
        try simp only [Act.put, List.setIfInBounds_toArray, List.set_cons_zero, List.set_cons_succ]
        refine wpAnyH_done (by kernel_rfl) ?_ _
        exact J _ _ _ _ _ _ _ _ _ _ _ _ _ _ _ _ _ _ _ _ _ _ _ BO.out
      · (go_simp; try (go_wp2_with fail))
        refine hK.out _ _ (ST.out _ BO.out) (fun hHeld => ?_)
        clear hK K
        try simp only [Act.put, List.setIfInBounds_toArray, List.set_cons_zero, List.set_cons_succ]
        refine wpAnyH_ready (rs := [9]) (by kernel_rfl) (by simp) ?_
        refine AllReadyH.cons (o := { dst := some 15, op := Op.load 9 (Operand.tmp 14), type := 9, pos := "l11_access.go:21", after := #[{ on := 8, ground := Ground.data }], guard := none }) rfl (fun K hK => ?_) AllReadyH.nil
        (go_simp; try (go_wp2_with fail))
        refine hK.out _ _ (ST.out _ BO.out) (fun hHeld => ?_)
        clear hK K
        try simp only [Act.put, List.setIfInBounds_toArray, List.set_cons_zero, List.set_cons_succ]
        refine tke 10 (some 16) (.string ((⟨#[100, 101, 110, 121, 32]⟩ : ByteArray) ++ r.who ++ ⟨#[32]⟩ ++ mt)) rfl rfl ?_
        try simp only [Act.put, List.setIfInBounds_toArray, List.set_cons_zero, List.set_cons_succ]
        refine tke 11 (some 17) (.string ((⟨#[100, 101, 110, 121, 32]⟩ : ByteArray) ++ r.who ++ ⟨#[32]⟩ ++ mt ++ ⟨#[32]⟩)) rfl rfl ?_
        try simp only [Act.put, List.setIfInBounds_toArray, List.set_cons_zero, List.set_cons_succ]
        refine tke 17 (some 23) (.string ((⟨#[100, 101, 110, 121, 32]⟩ : ByteArray) ++ r.who ++ ⟨#[32]⟩ ++ mt ++ ⟨#[32]⟩ ++ ot)) rfl rfl ?_
        try simp only [Act.put, List.setIfInBounds_toArray, List.set_cons_zero, List.set_cons_succ]
        refine tke 18 (some 24) (.string ((⟨#[100, 101, 110, 121, 32]⟩ : ByteArray) ++ r.who ++ ⟨#[32]⟩ ++ mt ++ ⟨#[32]⟩ ++ ot ++ ⟨#[32]⟩)) rfl rfl ?_
        try simp only [Act.put, List.setIfInBounds_toArray, List.set_cons_zero, List.set_cons_succ]
        refine tke 21 (some 27) (.string ((⟨#[100, 101, 110, 121, 32]⟩ : ByteArray) ++ r.who ++ ⟨#[32]⟩ ++ mt ++ ⟨#[32]⟩ ++ ot ++ ⟨#[32]⟩ ++ r.name)) rfl rfl ?_
        try simp only [Act.put, List.setIfInBounds_toArray, List.set_cons_zero, List.set_cons_succ]
        refine tke 22 (some 3) (.string ((⟨#[100, 101, 110, 121, 32]⟩ : ByteArray) ++ r.who ++ ⟨#[32]⟩ ++ mt ++ ⟨#[32]⟩ ++ ot ++ ⟨#[32]⟩ ++ r.name)) rfl rfl ?_
        try simp only [Act.put, List.setIfInBounds_toArray, List.set_cons_zero, List.set_cons_succ]
        refine wpAnyH_done (by kernel_rfl) ?_ _
        exact J _ _ _ _ _ _ _ _ _ _ _ _ _ _ _ _ _ _ _ _ _ _ _ BO.out
theorem line_any (r : Rul) (w : World) (ok : okR r = true) :
    Calls Try.prog 19 #[.agg (rrow r)] w fun e w' => e = .returned (.string (line r)) ∧ Below w.heap.size w w' := line_core r w ok r.deny rfl
set_option maxHeartbeats 6400000 in
theorem show_any (x : Value) (l : List Rul) (w : World) (S : Nat → Prop) (hv : LAt 6 ERul w S x l) (hS : ∀ g, S g → g < w.heap.size) (hf : szL szRul l ≤ 1048576) :
    Calls Try.prog 7 #[x] w fun e w' => e = .returned (.string (text l)) ∧ Below w.heap.size w w' := by
  obtain ⟨A, c, g, o, F, rfl, OA, n3⟩ := opn hv hS
  have HA := Seg.hid OA
  have HL : Hid (∀ i, i < l.length → szRul (l.getD i default) ≤ 1048576) := fun i hi => szL_one _ hf hi
  have hn : l.length ≤ 1048576 := szL_len _ hf
  clear hv OA hf n3
  have no : ∀ (w' : World), shows l = false → Below w.heap.size w w' → (Ending.returned (.string ⟨#[]⟩) = .returned (.string (text l)) ∧ Below w.heap.size w w') := fun w' h b => ⟨by rw [text_no h], b⟩
  have NO := Seg.hid no
  clear no
  go_enter Try.func7, Try.ntmps7
  by_cases h1 : l.length ≤ 100
  case neg =>
    have Z : Hid (shows l = false) := by show _ = _; simp [shows, h1]
    go_wp2
    go_ret
    exact NO.out _ Z.out (Below.refl _ _)
  have SH : Hid (shows l = (l.all okR && decide ((texts l).size ≤ 4000))) := by show _ = _; simp [shows, h1]
  go_wp2_with fail
  go_loopw [3, 4] (fun v i wr => ∃ (k : Nat) (s : ByteArray), k ≤ l.length ∧ v = .string s ∧ i = .int .i64 k ∧ s.size ≤ 100 * k ∧ Hid ((l.drop k).all okR = l.all okR ∧ lines (l.drop k) s = texts l ∧ Below w.heap.size w wr)) (fun _ i _ => l.length - (intOf i).toNat)
  case atStart => exact ⟨0, ⟨#[]⟩, Nat.zero_le _, rfl, rfl, Nat.zero_le _, rfl, rfl, Below.refl _ _⟩
  case round =>
    obtain ⟨k, s, hk, rfl, rfl, hs, HR⟩ := hrel
    by_cases hlt : k < l.length
    · obtain ⟨ea, hc, hga⟩ := HA.out.addr.resolve_left (by omega)
      have OL := HA.out.later keepsRul hS HR.out.2.2
      obtain ⟨e0, e1, e2, e3, e4, e5⟩ := rul_cells (i := k) (fun j hj => OL.cells k hlt j hj) (OL.el k hlt)
      have h0 : (0 : Int) ≤ (k : Int) := by omega
      have h1' : (k : Int) < (l.length : Int) := by omega
      have hgr : g < wr.heap.size := Nat.lt_of_lt_of_le hga HR.out.2.2.size
      have hz := HL.out k hlt
      have A1 : Hid ((okR (l.getD k default) && (l.drop (k + 1)).all okR) = l.all okR) := by
        have := HR.out.1
        rw [drop_cons hlt] at this
        exact this
      have A2 : Hid (lines (l.drop (k + 1)) (s ++ line (l.getD k default)) = texts l) := by
        have := HR.out.2.1
        rw [lines_step hlt] at this
        exact this
      have BR := Seg.hid HR.out.2.2
      clear OL HR
      generalize l.getD k default = r at *
      subst ea
      have n1 : r.who.size ≤ maxLen := by unfold szRul at hz; unfold maxLen; omega
      have n2 : r.name.size ≤ maxLen := by unfold szRul at hz; unfold maxLen; omega
      clear hz
      cases hb : okR r with
      | false =>
        have Z : Hid (shows l = false) := by show _ = _; rw [SH.out, ← A1.out, hb]; rfl
        have CR : Hid (∀ wx, Calls Try.prog 13 #[.agg (rrow r)] wx fun e w' => e = .returned (.bool false) ∧ Below wx.heap.size wx w') := fun wx => by have := rule_any r wx n1 n2; rw [hb] at this; exact this
        clear hb
        go_wp2_with (go_at_call 13; refine (CR.out _).mono ?_; rintro e w2 ⟨rfl, b2⟩; have B2 := Seg.hid b2; clear b2)
        go_ret
        exact NO.out _ Z.out (chain BR.out B2.out)
      | true =>
        have A3 : Hid ((l.drop (k + 1)).all okR = l.all okR) := by show _ = _; rw [← A1.out, hb]; rfl
        have CR : Hid (∀ wx, Calls Try.prog 13 #[.agg (rrow r)] wx fun e w' => e = .returned (.bool true) ∧ Below wx.heap.size wx w') := fun wx => by have := rule_any r wx n1 n2; rw [hb] at this; exact this
        have CL : Hid (∀ wx, Calls Try.prog 19 #[.agg (rrow r)] wx fun e w' => e = .returned (.string (line r)) ∧ Below wx.heap.size wx w') := fun wx => line_any r wx hb
        have hls := line_small hb
        have z1 : ¬ 9223372036854775807 < s.size + (line r).size := by omega
        have z2 : (s ++ line r).size ≤ 100 * (k + 1) := by rw [ByteArray.size_append]; omega
        clear hb hls
        go_wp2_with (first | (go_at_call 13; refine (CR.out _).mono ?_; rintro e w2 ⟨rfl, b2⟩; have B2 := Seg.hid b2; have f0 := (b2.cell (p := ⟨g, o + k * 6, none⟩) hgr).trans e0; have f1 := (b2.cell (p := ⟨g, o + k * 6 + 1, none⟩) hgr).trans e1; have f2 := (b2.cell (p := ⟨g, o + k * 6 + 2, none⟩) hgr).trans e2; have f3 := (b2.cell (p := ⟨g, o + k * 6 + 3, none⟩) hgr).trans e3; have f4 := (b2.cell (p := ⟨g, o + k * 6 + 4, none⟩) hgr).trans e4; have f5 := (b2.cell (p := ⟨g, o + k * 6 + 5, none⟩) hgr).trans e5; clear b2) | (go_at_call 19; refine (CL.out _).mono ?_; rintro e w3 ⟨rfl, b3⟩; have B3 := Seg.hid b3; clear b3))
        go_roundw
        case rel => exact ⟨k + 1, s ++ line r, by omega, rfl, by go_num, z2, A3.out, A2.out, chain (chain BR.out B2.out) B3.out⟩
        case measure => simp [intOf]; omega
    · have E1 : Hid (l.all okR = true) := by
        have := HR.out.1
        rw [List.drop_eq_nil_of_le (by omega)] at this
        exact this.symm
      have E2 : Hid (s = texts l) := by
        have := HR.out.2.1
        rw [lines_end (by omega)] at this
        exact this
      have BR := Seg.hid HR.out.2.2
      clear HR
      by_cases h4 : s.size ≤ 4000
      · have Z : Hid (s = text l) := by
          show _ = _
          rw [text_yes (by rw [SH.out, E1.out, ← E2.out]; simp [h4])]
          exact E2.out
        have h5 : ¬ (4000 : Int) < (s.size : Int) := by omega
        have h6 : s.size ≤ 9223372036854775807 := by omega
        go_wp2
        go_ret
        exact ⟨by rw [← Z.out]; rfl, BR.out⟩
      · have Z : Hid (shows l = false) := by show _ = _; rw [SH.out, ← E2.out]; simp [h4]
        have h5 : (4000 : Int) < (s.size : Int) := by omega
        have h6 : s.size ≤ 9223372036854775807 := by omega
        go_wp2
        go_ret
        exact NO.out _ Z.out BR.out
end Go.Proofs.Ytoaobifhiddpkaa.RuS
