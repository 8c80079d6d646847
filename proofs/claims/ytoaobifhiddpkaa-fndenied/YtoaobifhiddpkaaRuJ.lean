/- A rule's line, as the program writes it. -/
import Derived.Test.YtoaobifhiddpkaaRuK
import Derived.Test.YtoaobifhiddpkaaHdK
import Derived.Test.YtoaobifhiddpkaaShelf
namespace Go.Proofs.Ytoaobifhiddpkaa.RuI
set_option maxRecDepth 8000
open Go.RowKit
open Ls Lp RuP HdK
open Recs (hsz below1 below2 chain)
set_option linter.unusedVariables false
def fstT (d : Bool) : ByteArray := if d = true then ⟨#[100, 101, 110, 121]⟩ else ⟨#[97, 108, 108, 111, 119]⟩
def lstT (b : Bool) (n : ByteArray) : ByteArray := if b = true then n ++ ⟨#[42]⟩ else n
theorem line_join (r : Rul) : (⟨(Lib.join ([fstT r.deny, r.who, mayT r.may, onT r.on, lstT r.begins r.name].map (·.data.toList)) (⟨#[32]⟩ : ByteArray).data.toList).toArray⟩ : ByteArray) ++ ⟨#[10]⟩ = line r := by
  apply ByteArray.ext
  unfold line bodyT headT fstT lstT
  cases r.deny <;> cases r.begins <;> simp [Lib.join, List.intercalate, ByteArray.data_append]
set_option maxHeartbeats 6400000 in
theorem join5 (a b c d e : ByteArray) (ha : a.size ≤ 100) (hb : b.size ≤ 100) (hc : c.size ≤ 100) (hd : d.size ≤ 100) (he : e.size ≤ 100) (w wx : World) (hx : wx.heap = (w.alloc (.cells #[.string a, .string b, .string c, .string d, .string e] 9 (0, 0))).heap) :
    Calls Try.prog 33 #[.slice (some ⟨w.heap.size, 0, none⟩) 5 5, .string ⟨#[32]⟩] wx fun x w' => x = .returned (.string ⟨(Lib.join ([a, b, c, d, e].map (·.data.toList)) (⟨#[32]⟩ : ByteArray).data.toList).toArray⟩) ∧ Below wx.heap.size wx w' := by
  have hl : wx.heap.size = w.heap.size + 1 := by rw [hx, hsz]
  have hsize : (Lib.join ([a, b, c, d, e].map (·.data.toList)) (⟨#[32]⟩ : ByteArray).data.toList).length ≤ 140737488355328 := by
    simp [Lib.join, List.intercalate]
    have := ha; have := hb; have := hc; have := hd; have := he
    simp only [ByteArray.size] at *
    omega
  exact Try.strings_Join w.heap.size 0 5 [a, b, c, d, e] ⟨#[32]⟩ wx (fun j x hj => by
      have hr : wx.heap[w.heap.size]? = some (.cells #[.string a, .string b, .string c, .string d, .string e] 9 (0, 0)) := by rw [hx]; exact heap_alloc_new _ _
      rw [Nat.zero_add, cell_of_row wx w.heap.size j _ _ (0, 0) hr]
      match j, hj with
      | 0, hj => cases hj; rfl
      | 1, hj => cases hj; rfl
      | 2, hj => cases hj; rfl
      | 3, hj => cases hj; rfl
      | 4, hj => cases hj; rfl) (by omega) (by simp) (by simp) hsize
set_option maxHeartbeats 6400000 in
theorem line_ff (r : Rul) (w : World) (ok : okR r = true) (hd : r.deny = false) (hb : r.begins = false) :
    Calls Try.prog 32 #[.agg (rrow r)] w fun e w' => e = .returned (.string (line r)) ∧ Below w.heap.size w w' := by
  have s1 : r.who.size ≤ 20 := by simp only [okR, Bool.and_eq_true] at ok; exact who_small ok.1
  have s2 : r.name.size ≤ 20 := by simp only [okR, Bool.and_eq_true] at ok; exact nm_small ok.2.2.2
  have s3 := may_small r.may
  have s4 := on_small r.on
  have m1 : 1 ≤ r.may ∧ r.may ≤ 4 := by simp only [okR, Bool.and_eq_true] at ok; exact inR_true ok.2.1
  have m2 : 1 ≤ r.on ∧ r.on ≤ 2 := by simp only [okR, Bool.and_eq_true] at ok; exact inR_true ok.2.2.1
  have m3 : (0 : Int) ≤ r.may := by omega
  have m4 : r.may < (5 : Int) := by omega
  have m5 : (0 : Int) ≤ r.on := by omega
  have m6 : r.on < (3 : Int) := by omega
  have CM : Hid (∀ wx, Calls Try.prog 36 #[] wx fun e w' => e = .returned (.slice (some ⟨wx.heap.size, 0, none⟩) 5 5) ∧ w'.cell? ⟨wx.heap.size, r.may.toNat, none⟩ = some (.string (mayT r.may)) ∧ wx.heap.size < w'.heap.size ∧ Below wx.heap.size wx w') := fun wx => (may_any wx).mono fun e w' ⟨a, b, c, d⟩ => ⟨a, b _ (by omega), c, d⟩
  have CO : Hid (∀ wx, Calls Try.prog 37 #[] wx fun e w' => e = .returned (.slice (some ⟨wx.heap.size, 0, none⟩) 3 3) ∧ w'.cell? ⟨wx.heap.size, r.on.toNat, none⟩ = some (.string (onT r.on)) ∧ wx.heap.size < w'.heap.size ∧ Below wx.heap.size wx w') := fun wx => (on_any wx).mono fun e w' ⟨a, b, c, d⟩ => ⟨a, b _ (by omega), c, d⟩
  have FIN : Hid ((⟨(Lib.join ([(⟨#[97, 108, 108, 111, 119]⟩ : ByteArray), r.who, mayT r.may, onT r.on, r.name].map (·.data.toList)) (⟨#[32]⟩ : ByteArray).data.toList).toArray⟩ : ByteArray) ++ ⟨#[10]⟩ = line r) := by
    show _ = _
    have := line_join r
    rw [hd, hb] at this
    exact this
  have LS := Seg.hid (line_small ok)
  have CJ : Hid (∀ (wy wx : World), wx.heap = (wy.alloc (.cells #[.string (⟨#[97, 108, 108, 111, 119]⟩ : ByteArray), .string r.who, .string (mayT r.may), .string (onT r.on), .string r.name] 9 (0, 0))).heap → Calls Try.prog 33 #[.slice (some ⟨wy.heap.size, 0, none⟩) 5 5, .string ⟨#[32]⟩] wx fun x w' => x = .returned (.string ⟨(Lib.join ([(⟨#[97, 108, 108, 111, 119]⟩ : ByteArray), r.who, mayT r.may, onT r.on, r.name].map (·.data.toList)) (⟨#[32]⟩ : ByteArray).data.toList).toArray⟩) ∧ Below wx.heap.size wx w') := fun wy wx hx => join5 _ _ _ _ _ (by decide) (by omega) (by omega) (by omega) (by omega) wy wx hx
  unfold rrow
  rw [hd, hb]
  clear ok m1 m2 hd hb s3 s4
  generalize mayT r.may = mt at *
  generalize onT r.on = ot at *
  have g1 : ¬ 9223372036854775807 < r.name.size + 1 := by omega
  go_enter Try.func32, Try.ntmps32
  go_upto_region 1 with fail
  go_quiet (fail)
  go_upto_region 6 with fail
  obtain ⟨w1, hw1⟩ : ∃ w1, (w.alloc (.cells #[.bool false, .string r.who, .int .i64 r.may, .int .i64 r.on, .string r.name, .bool false] 30 (0, 0))).drewN nq = w1 := ⟨_, rfl⟩
  rw [hw1]
  have R1 : Hid (w1.heap[w.heap.size]? = some (.cells #[.bool false, .string r.who, .int .i64 r.may, .int .i64 r.on, .string r.name, .bool false] 30 (0, 0))) := by show _ = _; rw [← hw1]; exact heap_alloc_new _ _
  have B1 : Hid (Below w.heap.size w w1) := by show Below _ _ _; rw [← hw1]; exact (have q := below1 w (.cells #[.bool false, .string r.who, .int .i64 r.may, .int .i64 r.on, .string r.name, .bool false] 30 (0, 0)); ⟨q.os, q.tape, q.output, q.size, q.block⟩)
  have hl1 : w.heap.size < w1.heap.size := (Array.getElem?_eq_some_iff.1 R1.out).1
  have ST : Hid (∀ wx, Below w1.heap.size w1 wx → wx.cell? ⟨w.heap.size, 1, none⟩ = some (.string r.who) ∧ wx.cell? ⟨w.heap.size, 2, none⟩ = some (.int .i64 r.may) ∧ wx.cell? ⟨w.heap.size, 3, none⟩ = some (.int .i64 r.on)) := fun wx b => by
    have hR : wx.heap[w.heap.size]? = some (.cells #[.bool false, .string r.who, .int .i64 r.may, .int .i64 r.on, .string r.name, .bool false] 30 (0, 0)) := by rw [b.block _ hl1]; exact R1.out
    exact ⟨cell_of_row wx _ 1 _ _ (0, 0) hR, cell_of_row wx _ 2 _ _ (0, 0) hR, cell_of_row wx _ 3 _ _ (0, 0) hR⟩
  clear hw1
  rename_i K0 aK0
  have J : ∀ (x6 x7 x8 x9 x10 x11 x12 x13 x14 x15 x16 x17 x18 x19 x20 x21 x22 x23 x24 x25 x26 x27 x28 : Value) (wx : World), Below w1.heap.size w1 wx → K0 { tmps := #[.agg #[.bool false, .string r.who, .int .i64 r.may, .int .i64 r.on, .string r.name, .bool false], .pointer (some ⟨w.heap.size, 0, none⟩), .string ⟨#[]⟩, .string (⟨#[97, 108, 108, 111, 119]⟩ : ByteArray), .string r.name, .slice (some ⟨wx.heap.size, 0, none⟩) 5 5, x6, x7, x8, x9, x10, x11, x12, x13, x14, x15, x16, x17, x18, x19, x20, x21, x22, x23, x24, x25, x26, x27, x28, undef, undef, undef], defers := [] } (wx.alloc (.cells #[.string (⟨#[97, 108, 108, 111, 119]⟩ : ByteArray), .string r.who, .string mt, .string ot, .string r.name] 9 (0, 0))) := by
    intro x6 x7 x8 x9 x10 x11 x12 x13 x14 x15 x16 x17 x18 x19 x20 x21 x22 x23 x24 x25 x26 x27 x28 wx bx
    have BX := Seg.hid (chain (chain B1.out bx) (below1 wx (.cells #[.string (⟨#[97, 108, 108, 111, 119]⟩ : ByteArray), .string r.who, .string mt, .string ot, .string r.name] 9 (0, 0))))
    have CX := Seg.hid (CJ.out wx (wx.alloc (.cells #[.string (⟨#[97, 108, 108, 111, 119]⟩ : ByteArray), .string r.who, .string mt, .string ot, .string r.name] 9 (0, 0))) rfl)
    clear bx ST CM CO CJ
    generalize (⟨(Lib.join ([(⟨#[97, 108, 108, 111, 119]⟩ : ByteArray), r.who, mt, ot, r.name].map (·.data.toList)) (⟨#[32]⟩ : ByteArray).data.toList).toArray⟩ : ByteArray) = s at *
    generalize wx.alloc (.cells #[.string (⟨#[97, 108, 108, 111, 119]⟩ : ByteArray), .string r.who, .string mt, .string ot, .string r.name] 9 (0, 0)) = wy at *
    have z1 : ¬ 9223372036854775807 < s.size + 1 := by have := LS.out; rw [← FIN.out, ByteArray.size_append, s10] at this; omega
    refine aK0 _ _ ?_
    clear aK0
    go_wp2_with (go_at_call 33; refine CX.out.mono ?_; rintro e w9 ⟨rfl, b9⟩; have B9 := Seg.hid b9; clear b9)
    go_ret
    exact ⟨by rw [← FIN.out]; rfl, chain BX.out B9.out⟩
  clear aK0
  refine wp_region_held_drew (S := (fun w' => w'.cell? ⟨w.heap.size, 1, none⟩ = some (.string r.who) ∧ w'.cell? ⟨w.heap.size, 2, none⟩ = some (.int .i64 r.may) ∧ w'.cell? ⟨w.heap.size, 3, none⟩ = some (.int .i64 r.on))) (by kernel_rfl) (ST.out _ (Below.refl _ _).drew) (fun hHeld => ?_)
  refine tke 0 (some 14) (.string (⟨#[97, 108, 108, 111, 119]⟩ : ByteArray)) rfl rfl ?_
  try simp only [Act.put, List.setIfInBounds_toArray, List.set_cons_zero, List.set_cons_succ]
  refine tke 1 (some 15) (.pointer (some ⟨w.heap.size, 1, none⟩)) rfl rfl ?_
  try simp only [Act.put, List.setIfInBounds_toArray, List.set_cons_zero, List.set_cons_succ]
  refine tke 2 (some 16) (.string r.who) rfl rfl ?_
  try simp only [Act.put, List.setIfInBounds_toArray, List.set_cons_zero, List.set_cons_succ]
  refine tke 4 (some 18) (.pointer (some ⟨w.heap.size, 2, none⟩)) rfl rfl ?_
  try simp only [Act.put, List.setIfInBounds_toArray, List.set_cons_zero, List.set_cons_succ]
  refine tke 5 (some 19) (.int .i64 r.may) rfl rfl ?_
  try simp only [Act.put, List.setIfInBounds_toArray, List.set_cons_zero, List.set_cons_succ]
  refine tke 9 (some 23) (.pointer (some ⟨w.heap.size, 3, none⟩)) rfl rfl ?_
  try simp only [Act.put, List.setIfInBounds_toArray, List.set_cons_zero, List.set_cons_succ]
  refine tke 10 (some 24) (.int .i64 r.on) rfl rfl ?_
  try simp only [Act.put, List.setIfInBounds_toArray, List.set_cons_zero, List.set_cons_succ]
  refine tke 13 (some 27) (.string r.name) rfl rfl ?_
  try simp only [Act.put, List.setIfInBounds_toArray, List.set_cons_zero, List.set_cons_succ]
  refine wpAnyH_ready (rs := [3]) (by kernel_rfl) (by simp) ?_
  refine AllReadyH.cons (o := { dst := some 17, op := Op.call { callee := Callee.value (Operand.func 36), args := #[], argTypes := #[] }, type := 42, pos := "l11_access.go:100", after := #[], guard := none }) rfl (fun K hK => ?_) AllReadyH.nil
  (go_simp; go_at_call 36; refine (CM.out _).mono ?_; rintro e w8 ⟨rfl, x8, l8, b8⟩; have BM : Hid (Below w1.heap.size w1 w8) := ⟨b8.os, b8.tape, b8.output, b8.size, b8.block⟩; have X8 : w8.cell? ⟨w1.heap.size, r.may.toNat, none⟩ = some (.string mt) := x8; have L8 : w1.heap.size < w8.heap.size := l8; clear b8 x8 l8; try (go_wp2_with fail))
  refine hK.out _ _ (ST.out _ BM.out) (fun hHeld => ?_)
  clear hK K
  try simp only [Act.put, List.setIfInBounds_toArray, List.set_cons_zero, List.set_cons_succ]
  refine tke 6 (some 20) (.pointer (some ⟨w1.heap.size, r.may.toNat, none⟩)) rfl rfl ?_
  try simp only [Act.put, List.setIfInBounds_toArray, List.set_cons_zero, List.set_cons_succ]
  refine wpAnyH_ready (rs := [7, 8]) (by kernel_rfl) (by simp) ?_
  refine AllReadyH.cons (o := { dst := some 21, op := Op.load 9 (Operand.tmp 20), type := 9, pos := "l11_access.go:100", after := #[{ on := 6, ground := Ground.data }], guard := none }) rfl (fun K hK => ?_) (AllReadyH.cons (o := { dst := some 22, op := Op.call { callee := Callee.value (Operand.func 37), args := #[], argTypes := #[] }, type := 42, pos := "l11_access.go:100", after := #[{ on := 3, ground := Ground.chain }], guard := none }) rfl (fun K hK => ?_) AllReadyH.nil)
  · (go_simp; try (go_wp2_with fail))
    refine hK.out _ _ (ST.out _ BM.out) (fun hHeld => ?_)
    clear hK K
    try simp only [Act.put, List.setIfInBounds_toArray, List.set_cons_zero, List.set_cons_succ]
    refine wpAnyH_ready (rs := [8]) (by kernel_rfl) (by simp) ?_
    refine AllReadyH.cons (o := { dst := some 22, op := Op.call { callee := Callee.value (Operand.func 37), args := #[], argTypes := #[] }, type := 42, pos := "l11_access.go:100", after := #[{ on := 3, ground := Ground.chain }], guard := none }) rfl (fun K hK => ?_) AllReadyH.nil
    (go_simp; go_at_call 37; refine (CO.out _).mono ?_; rintro e w9 ⟨rfl, x9, l9, b9⟩; have bo : Below w8.heap.size w8 w9 := ⟨b9.os, b9.tape, b9.output, b9.size, b9.block⟩; have BO : Hid (Below w1.heap.size w1 w9) := chain BM.out bo; have X9 : w9.cell? ⟨w8.heap.size, r.on.toNat, none⟩ = some (.string ot) := x9; have X7 : w9.cell? ⟨w1.heap.size, r.may.toNat, none⟩ = some (.string mt) := (bo.cell (p := ⟨w1.heap.size, r.may.toNat, none⟩) L8).trans X8; clear b9 x9 l9 bo; try (go_wp2_with fail))
    refine hK.out _ _ (ST.out _ BO.out) (fun hHeld => ?_)
    clear hK K
    try simp only [Act.put, List.setIfInBounds_toArray, List.set_cons_zero, List.set_cons_succ]
    refine tke 11 (some 25) (.pointer (some ⟨w8.heap.size, r.on.toNat, none⟩)) rfl rfl ?_
    try simp only [Act.put, List.setIfInBounds_toArray, List.set_cons_zero, List.set_cons_succ]
    refine wpAnyH_ready (rs := [12]) (by kernel_rfl) (by simp) ?_
    refine AllReadyH.cons (o := { dst := some 26, op := Op.load 9 (Operand.tmp 25), type := 9, pos := "l11_access.go:100", after := #[{ on := 11, ground := Ground.data }], guard := none }) rfl (fun K hK => ?_) AllReadyH.nil
    (go_simp; try (go_wp2_with fail))
    refine hK.out _ _ (ST.out _ BO.out) (fun hHeld => ?_)
    clear hK K
    try simp only [Act.put, List.setIfInBounds_toArray, List.set_cons_zero, List.set_cons_succ]
    refine wpAnyH_ready (rs := [14]) (by kernel_rfl) (by simp) ?_
    refine AllReadyH.cons (o := { dst := some 28, op := Op.buildSlice 42 5 #[(0, Operand.tmp 14), (1, Operand.tmp 16), (2, Operand.tmp 21), (3, Operand.tmp 26), (4, Operand.tmp 27)], type := 42, pos := "l11_access.go:100", after := #[{ on := 0, ground := Ground.data }, { on := 2, ground := Ground.data }, { on := 7, ground := Ground.data }, { on := 12, ground := Ground.data }, { on := 13, ground := Ground.data }], guard := none }) rfl (fun K hK => ?_) AllReadyH.nil
    (go_simp; try (go_wp2_with fail))
    refine hK.out _ _ (ST.out _ (chain BO.out (below1 w9 _))) (fun hHeld => ?_)
    clear hK K
    try simp only [Act.put, List.setIfInBounds_toArray, List.set_cons_zero, List.set_cons_succ]
    refine tke 15 (some 5) (.slice (some ⟨w9.heap.size, 0, none⟩) 5 5) rfl rfl ?_
    try simp only [Act.put, List.setIfInBounds_toArray, List.set_cons_zero, List.set_cons_succ]
    refine wpAnyH_done (by kernel_rfl) ?_ _
    exact J _ _ _ _ _ _ _ _ _ _ _ _ _ _ _ _ _ _ _ _ _ _ _ w9 BO.out
  · (go_simp; go_at_call 37; refine (CO.out _).mono ?_; rintro e w9 ⟨rfl, x9, l9, b9⟩; have bo : Below w8.heap.size w8 w9 := ⟨b9.os, b9.tape, b9.output, b9.size, b9.block⟩; have BO : Hid (Below w1.heap.size w1 w9) := chain BM.out bo; have X9 : w9.cell? ⟨w8.heap.size, r.on.toNat, none⟩ = some (.string ot) := x9; have X7 : w9.cell? ⟨w1.heap.size, r.may.toNat, none⟩ = some (.string mt) := (bo.cell (p := ⟨w1.heap.size, r.may.toNat, none⟩) L8).trans X8; clear b9 x9 l9 bo; try (go_wp2_with fail))
    refine hK.out _ _ (ST.out _ BO.out) (fun hHeld => ?_)
    clear hK K
    try simp only [Act.put, List.setIfInBounds_toArray, List.set_cons_zero, List.set_cons_succ]
    refine tke 11 (some 25) (.pointer (some ⟨w8.heap.size, r.on.toNat, none⟩)) rfl rfl ?_
    try simp only [Act.put, List.setIfInBounds_toArray, List.set_cons_zero, List.set_cons_succ]
    refine wpAnyH_ready (rs := [7, 12]) (by kernel_rfl) (by simp) ?_
    refine AllReadyH.cons (o := { dst := some 21, op := Op.load 9 (Operand.tmp 20), type := 9, pos := "l11_access.go:100", after := #[{ on := 6, ground := Ground.data }], guard := none }) rfl (fun K hK => ?_) (AllReadyH.cons (o := { dst := some 26, op := Op.load 9 (Operand.tmp 25), type := 9, pos := "l11_access.go:100", after := #[{ on := 11, ground := Ground.data }], guard := none }) rfl (fun K hK => ?_) AllReadyH.nil)
    · (go_simp; try (go_wp2_with fail))
      refine hK.out _ _ (ST.out _ BO.out) (fun hHeld => ?_)
      clear hK K
      try simp only [Act.put, List.setIfInBounds_toArray, List.set_cons_zero, List.set_cons_succ]
      refine wpAnyH_ready (rs := [12]) (by kernel_rfl) (by simp) ?_
      refine AllReadyH.cons (o := { dst := some 26, op := Op.load 9 (Operand.tmp 25), type := 9, pos := "l11_access.go:100", after := #[{ on := 11, ground := Ground.data }], guard := none }) rfl (fun K hK => ?_) AllReadyH.nil
      (go_simp; try (go_wp2_with fail))
      refine hK.out _ _ (ST.out _ BO.out) (fun hHeld => ?_)
      clear hK K
      try simp only [Act.put, List.setIfInBounds_toArray, List.set_cons_zero, List.set_cons_succ]
      refine wpAnyH_ready (rs := [14]) (by kernel_rfl) (by simp) ?_
      refine AllReadyH.cons (o := { dst := some 28, op := Op.buildSlice 42 5 #[(0, Operand.tmp 14), (1, Operand.tmp 16), (2, Operand.tmp 21), (3, Operand.tmp 26), (4, Operand.tmp 27)], type := 42, pos := "l11_access.go:100", after := #[{ on := 0, ground := Ground.data }, { on := 2, ground := Ground.data }, { on := 7, ground := Ground.data }, { on := 12, ground := Ground.data }, { on := 13, ground := Ground.data }], guard := none }) rfl (fun K hK => ?_) AllReadyH.nil
      (go_simp; try (go_wp2_with fail))
      refine hK.out _ _ (ST.out _ (chain BO.out (below1 w9 _))) (fun hHeld => ?_)
      clear hK K
      try simp only [Act.put, List.setIfInBounds_toArray, List.set_cons_zero, List.set_cons_succ]
      refine tke 15 (some 5) (.slice (some ⟨w9.heap.size, 0, none⟩) 5 5) rfl rfl ?_
      try simp only [Act.put, List.setIfInBounds_toArray, List.set_cons_zero, List.set_cons_succ]
      refine wpAnyH_done (by kernel_rfl) ?_ _
      exact J _ _ _ _ _ _ _ _ _ _ _ _ _ _ _ _ _ _ _ _ _ _ _ w9 BO.out
    · (go_simp; try (go_wp2_with fail))
      refine hK.out _ _ (ST.out _ BO.out) (fun hHeld => ?_)
      clear hK K
      try simp only [Act.put, List.setIfInBounds_toArray, List.set_cons_zero, List.set_cons_succ]
      refine wpAnyH_ready (rs := [7]) (by kernel_rfl) (by simp) ?_
      refine AllReadyH.cons (o := { dst := some 21, op := Op.load 9 (Operand.tmp 20), type := 9, pos := "l11_access.go:100", after := #[{ on := 6, ground := Ground.data }], guard := none }) rfl (fun K hK => ?_) AllReadyH.nil
      (go_simp; try (go_wp2_with fail))
      refine hK.out _ _ (ST.out _ BO.out) (fun hHeld => ?_)
      clear hK K
      try simp only [Act.put, List.setIfInBounds_toArray, List.set_cons_zero, List.set_cons_succ]
      refine wpAnyH_ready (rs := [14]) (by kernel_rfl) (by simp) ?_
      refine AllReadyH.cons (o := { dst := some 28, op := Op.buildSlice 42 5 #[(0, Operand.tmp 14), (1, Operand.tmp 16), (2, Operand.tmp 21), (3, Operand.tmp 26), (4, Operand.tmp 27)], type := 42, pos := "l11_access.go:100", after := #[{ on := 0, ground := Ground.data }, { on := 2, ground := Ground.data }, { on := 7, ground := Ground.data }, { on := 12, ground := Ground.data }, { on := 13, ground := Ground.data }], guard := none }) rfl (fun K hK => ?_) AllReadyH.nil
      (go_simp; try (go_wp2_with fail))
      refine hK.out _ _ (ST.out _ (chain BO.out (below1 w9 _))) (fun hHeld => ?_)
      clear hK K
      try simp only [Act.put, List.setIfInBounds_toArray, List.set_cons_zero, List.set_cons_succ]
      refine tke 15 (some 5) (.slice (some ⟨w9.heap.size, 0, none⟩) 5 5) rfl rfl ?_
      try simp only [Act.put, List.setIfInBounds_toArray, List.set_cons_zero, List.set_cons_succ]
      refine wpAnyH_done (by kernel_rfl) ?_ _
      exact J _ _ _ _ _ _ _ _ _ _ _ _ _ _ _ _ _ _ _ _ _ _ _ w9 BO.out
set_option maxHeartbeats 6400000 in
theorem line_ft (r : Rul) (w : World) (ok : okR r = true) (hd : r.deny = false) (hb : r.begins = true) :
    Calls Try.prog 32 #[.agg (rrow r)] w fun e w' => e = .returned (.string (line r)) ∧ Below w.heap.size w w' := by
  have s1 : r.who.size ≤ 20 := by simp only [okR, Bool.and_eq_true] at ok; exact who_small ok.1
  have s2 : r.name.size ≤ 20 := by simp only [okR, Bool.and_eq_true] at ok; exact nm_small ok.2.2.2
  have s3 := may_small r.may
  have s4 := on_small r.on
  have m1 : 1 ≤ r.may ∧ r.may ≤ 4 := by simp only [okR, Bool.and_eq_true] at ok; exact inR_true ok.2.1
  have m2 : 1 ≤ r.on ∧ r.on ≤ 2 := by simp only [okR, Bool.and_eq_true] at ok; exact inR_true ok.2.2.1
  have m3 : (0 : Int) ≤ r.may := by omega
  have m4 : r.may < (5 : Int) := by omega
  have m5 : (0 : Int) ≤ r.on := by omega
  have m6 : r.on < (3 : Int) := by omega
  have CM : Hid (∀ wx, Calls Try.prog 36 #[] wx fun e w' => e = .returned (.slice (some ⟨wx.heap.size, 0, none⟩) 5 5) ∧ w'.cell? ⟨wx.heap.size, r.may.toNat, none⟩ = some (.string (mayT r.may)) ∧ wx.heap.size < w'.heap.size ∧ Below wx.heap.size wx w') := fun wx => (may_any wx).mono fun e w' ⟨a, b, c, d⟩ => ⟨a, b _ (by omega), c, d⟩
  have CO : Hid (∀ wx, Calls Try.prog 37 #[] wx fun e w' => e = .returned (.slice (some ⟨wx.heap.size, 0, none⟩) 3 3) ∧ w'.cell? ⟨wx.heap.size, r.on.toNat, none⟩ = some (.string (onT r.on)) ∧ wx.heap.size < w'.heap.size ∧ Below wx.heap.size wx w') := fun wx => (on_any wx).mono fun e w' ⟨a, b, c, d⟩ => ⟨a, b _ (by omega), c, d⟩
  have FIN : Hid ((⟨(Lib.join ([(⟨#[97, 108, 108, 111, 119]⟩ : ByteArray), r.who, mayT r.may, onT r.on, (r.name ++ (⟨#[42]⟩ : ByteArray))].map (·.data.toList)) (⟨#[32]⟩ : ByteArray).data.toList).toArray⟩ : ByteArray) ++ ⟨#[10]⟩ = line r) := by
    show _ = _
    have := line_join r
    rw [hd, hb] at this
    exact this
  have LS := Seg.hid (line_small ok)
  have CJ : Hid (∀ (wy wx : World), wx.heap = (wy.alloc (.cells #[.string (⟨#[97, 108, 108, 111, 119]⟩ : ByteArray), .string r.who, .string (mayT r.may), .string (onT r.on), .string (r.name ++ (⟨#[42]⟩ : ByteArray))] 9 (0, 0))).heap → Calls Try.prog 33 #[.slice (some ⟨wy.heap.size, 0, none⟩) 5 5, .string ⟨#[32]⟩] wx fun x w' => x = .returned (.string ⟨(Lib.join ([(⟨#[97, 108, 108, 111, 119]⟩ : ByteArray), r.who, mayT r.may, onT r.on, (r.name ++ (⟨#[42]⟩ : ByteArray))].map (·.data.toList)) (⟨#[32]⟩ : ByteArray).data.toList).toArray⟩) ∧ Below wx.heap.size wx w') := fun wy wx hx => join5 _ _ _ _ _ (by decide) (by omega) (by omega) (by omega) (by rw [ByteArray.size_append, s42]; omega) wy wx hx
  unfold rrow
  rw [hd, hb]
  clear ok m1 m2 hd hb s3 s4
  generalize mayT r.may = mt at *
  generalize onT r.on = ot at *
  have g1 : ¬ 9223372036854775807 < r.name.size + 1 := by omega
  go_enter Try.func32, Try.ntmps32
  go_upto_region 1 with fail
  go_quiet (fail)
  go_upto_region 6 with fail
  obtain ⟨w1, hw1⟩ : ∃ w1, (w.alloc (.cells #[.bool false, .string r.who, .int .i64 r.may, .int .i64 r.on, .string r.name, .bool true] 30 (0, 0))).drewN nq = w1 := ⟨_, rfl⟩
  rw [hw1]
  have R1 : Hid (w1.heap[w.heap.size]? = some (.cells #[.bool false, .string r.who, .int .i64 r.may, .int .i64 r.on, .string r.name, .bool true] 30 (0, 0))) := by show _ = _; rw [← hw1]; exact heap_alloc_new _ _
  have B1 : Hid (Below w.heap.size w w1) := by show Below _ _ _; rw [← hw1]; exact (have q := below1 w (.cells #[.bool false, .string r.who, .int .i64 r.may, .int .i64 r.on, .string r.name, .bool true] 30 (0, 0)); ⟨q.os, q.tape, q.output, q.size, q.block⟩)
  have hl1 : w.heap.size < w1.heap.size := (Array.getElem?_eq_some_iff.1 R1.out).1
  have ST : Hid (∀ wx, Below w1.heap.size w1 wx → wx.cell? ⟨w.heap.size, 1, none⟩ = some (.string r.who) ∧ wx.cell? ⟨w.heap.size, 2, none⟩ = some (.int .i64 r.may) ∧ wx.cell? ⟨w.heap.size, 3, none⟩ = some (.int .i64 r.on)) := fun wx b => by
    have hR : wx.heap[w.heap.size]? = some (.cells #[.bool false, .string r.who, .int .i64 r.may, .int .i64 r.on, .string r.name, .bool true] 30 (0, 0)) := by rw [b.block _ hl1]; exact R1.out
    exact ⟨cell_of_row wx _ 1 _ _ (0, 0) hR, cell_of_row wx _ 2 _ _ (0, 0) hR, cell_of_row wx _ 3 _ _ (0, 0) hR⟩
  clear hw1
  rename_i K0 aK0
  have J : ∀ (x6 x7 x8 x9 x10 x11 x12 x13 x14 x15 x16 x17 x18 x19 x20 x21 x22 x23 x24 x25 x26 x27 x28 : Value) (wx : World), Below w1.heap.size w1 wx → K0 { tmps := #[.agg #[.bool false, .string r.who, .int .i64 r.may, .int .i64 r.on, .string r.name, .bool true], .pointer (some ⟨w.heap.size, 0, none⟩), .string ⟨#[]⟩, .string (⟨#[97, 108, 108, 111, 119]⟩ : ByteArray), .string (r.name ++ (⟨#[42]⟩ : ByteArray)), .slice (some ⟨wx.heap.size, 0, none⟩) 5 5, x6, x7, x8, x9, x10, x11, x12, x13, x14, x15, x16, x17, x18, x19, x20, x21, x22, x23, x24, x25, x26, x27, x28, undef, undef, undef], defers := [] } (wx.alloc (.cells #[.string (⟨#[97, 108, 108, 111, 119]⟩ : ByteArray), .string r.who, .string mt, .string ot, .string (r.name ++ (⟨#[42]⟩ : ByteArray))] 9 (0, 0))) := by
    intro x6 x7 x8 x9 x10 x11 x12 x13 x14 x15 x16 x17 x18 x19 x20 x21 x22 x23 x24 x25 x26 x27 x28 wx bx
    have BX := Seg.hid (chain (chain B1.out bx) (below1 wx (.cells #[.string (⟨#[97, 108, 108, 111, 119]⟩ : ByteArray), .string r.who, .string mt, .string ot, .string (r.name ++ (⟨#[42]⟩ : ByteArray))] 9 (0, 0))))
    have CX := Seg.hid (CJ.out wx (wx.alloc (.cells #[.string (⟨#[97, 108, 108, 111, 119]⟩ : ByteArray), .string r.who, .string mt, .string ot, .string (r.name ++ (⟨#[42]⟩ : ByteArray))] 9 (0, 0))) rfl)
    clear bx ST CM CO CJ
    generalize (⟨(Lib.join ([(⟨#[97, 108, 108, 111, 119]⟩ : ByteArray), r.who, mt, ot, (r.name ++ (⟨#[42]⟩ : ByteArray))].map (·.data.toList)) (⟨#[32]⟩ : ByteArray).data.toList).toArray⟩ : ByteArray) = s at *
    generalize wx.alloc (.cells #[.string (⟨#[97, 108, 108, 111, 119]⟩ : ByteArray), .string r.who, .string mt, .string ot, .string (r.name ++ (⟨#[42]⟩ : ByteArray))] 9 (0, 0)) = wy at *
    have z1 : ¬ 9223372036854775807 < s.size + 1 := by have := LS.out; rw [← FIN.out, ByteArray.size_append, s10] at this; omega
    refine aK0 _ _ ?_
    clear aK0
    go_wp2_with (go_at_call 33; refine CX.out.mono ?_; rintro e w9 ⟨rfl, b9⟩; have B9 := Seg.hid b9; clear b9)
    go_ret
    exact ⟨by rw [← FIN.out]; rfl, chain BX.out B9.out⟩
  clear aK0
  refine wp_region_held_drew (S := (fun w' => w'.cell? ⟨w.heap.size, 1, none⟩ = some (.string r.who) ∧ w'.cell? ⟨w.heap.size, 2, none⟩ = some (.int .i64 r.may) ∧ w'.cell? ⟨w.heap.size, 3, none⟩ = some (.int .i64 r.on))) (by kernel_rfl) (ST.out _ (Below.refl _ _).drew) (fun hHeld => ?_)
  refine tke 0 (some 14) (.string (⟨#[97, 108, 108, 111, 119]⟩ : ByteArray)) rfl rfl ?_
  try simp only [Act.put, List.setIfInBounds_toArray, List.set_cons_zero, List.set_cons_succ]
  refine tke 1 (some 15) (.pointer (some ⟨w.heap.size, 1, none⟩)) rfl rfl ?_
  try simp only [Act.put, List.setIfInBounds_toArray, List.set_cons_zero, List.set_cons_succ]
  refine tke 2 (some 16) (.string r.who) rfl rfl ?_
  try simp only [Act.put, List.setIfInBounds_toArray, List.set_cons_zero, List.set_cons_succ]
  refine tke 4 (some 18) (.pointer (some ⟨w.heap.size, 2, none⟩)) rfl rfl ?_
  try simp only [Act.put, List.setIfInBounds_toArray, List.set_cons_zero, List.set_cons_succ]
  refine tke 5 (some 19) (.int .i64 r.may) rfl rfl ?_
  try simp only [Act.put, List.setIfInBounds_toArray, List.set_cons_zero, List.set_cons_succ]
  refine tke 9 (some 23) (.pointer (some ⟨w.heap.size, 3, none⟩)) rfl rfl ?_
  try simp only [Act.put, List.setIfInBounds_toArray, List.set_cons_zero, List.set_cons_succ]
  refine tke 10 (some 24) (.int .i64 r.on) rfl rfl ?_
  try simp only [Act.put, List.setIfInBounds_toArray, List.set_cons_zero, List.set_cons_succ]
  refine tke 13 (some 27) (.string (r.name ++ (⟨#[42]⟩ : ByteArray))) rfl rfl ?_
  try simp only [Act.put, List.setIfInBounds_toArray, List.set_cons_zero, List.set_cons_succ]
  refine wpAnyH_ready (rs := [3]) (by kernel_rfl) (by simp) ?_
  refine AllReadyH.cons (o := { dst := some 17, op := Op.call { callee := Callee.value (Operand.func 36), args := #[], argTypes := #[] }, type := 42, pos := "l11_access.go:100", after := #[], guard := none }) rfl (fun K hK => ?_) AllReadyH.nil
  (go_simp; go_at_call 36; refine (CM.out _).mono ?_; rintro e w8 ⟨rfl, x8, l8, b8⟩; have BM : Hid (Below w1.heap.size w1 w8) := ⟨b8.os, b8.tape, b8.output, b8.size, b8.block⟩; have X8 : w8.cell? ⟨w1.heap.size, r.may.toNat, none⟩ = some (.string mt) := x8; have L8 : w1.heap.size < w8.heap.size := l8; clear b8 x8 l8; try (go_wp2_with fail))
  refine hK.out _ _ (ST.out _ BM.out) (fun hHeld => ?_)
  clear hK K
  try simp only [Act.put, List.setIfInBounds_toArray, List.set_cons_zero, List.set_cons_succ]
  refine tke 6 (some 20) (.pointer (some ⟨w1.heap.size, r.may.toNat, none⟩)) rfl rfl ?_
  try simp only [Act.put, List.setIfInBounds_toArray, List.set_cons_zero, List.set_cons_succ]
  refine wpAnyH_ready (rs := [7, 8]) (by kernel_rfl) (by simp) ?_
  refine AllReadyH.cons (o := { dst := some 21, op := Op.load 9 (Operand.tmp 20), type := 9, pos := "l11_access.go:100", after := #[{ on := 6, ground := Ground.data }], guard := none }) rfl (fun K hK => ?_) (AllReadyH.cons (o := { dst := some 22, op := Op.call { callee := Callee.value (Operand.func 37), args := #[], argTypes := #[] }, type := 42, pos := "l11_access.go:100", after := #[{ on := 3, ground := Ground.chain }], guard := none }) rfl (fun K hK => ?_) AllReadyH.nil)
  · (go_simp; try (go_wp2_with fail))
    refine hK.out _ _ (ST.out _ BM.out) (fun hHeld => ?_)
    clear hK K
    try simp only [Act.put, List.setIfInBounds_toArray, List.set_cons_zero, List.set_cons_succ]
    refine wpAnyH_ready (rs := [8]) (by kernel_rfl) (by simp) ?_
    refine AllReadyH.cons (o := { dst := some 22, op := Op.call { callee := Callee.value (Operand.func 37), args := #[], argTypes := #[] }, type := 42, pos := "l11_access.go:100", after := #[{ on := 3, ground := Ground.chain }], guard := none }) rfl (fun K hK => ?_) AllReadyH.nil
    (go_simp; go_at_call 37; refine (CO.out _).mono ?_; rintro e w9 ⟨rfl, x9, l9, b9⟩; have bo : Below w8.heap.size w8 w9 := ⟨b9.os, b9.tape, b9.output, b9.size, b9.block⟩; have BO : Hid (Below w1.heap.size w1 w9) := chain BM.out bo; have X9 : w9.cell? ⟨w8.heap.size, r.on.toNat, none⟩ = some (.string ot) := x9; have X7 : w9.cell? ⟨w1.heap.size, r.may.toNat, none⟩ = some (.string mt) := (bo.cell (p := ⟨w1.heap.size, r.may.toNat, none⟩) L8).trans X8; clear b9 x9 l9 bo; try (go_wp2_with fail))
    refine hK.out _ _ (ST.out _ BO.out) (fun hHeld => ?_)
    clear hK K
    try simp only [Act.put, List.setIfInBounds_toArray, List.set_cons_zero, List.set_cons_succ]
    refine tke 11 (some 25) (.pointer (some ⟨w8.heap.size, r.on.toNat, none⟩)) rfl rfl ?_
    try simp only [Act.put, List.setIfInBounds_toArray, List.set_cons_zero, List.set_cons_succ]
    refine wpAnyH_ready (rs := [12]) (by kernel_rfl) (by simp) ?_
    refine AllReadyH.cons (o := { dst := some 26, op := Op.load 9 (Operand.tmp 25), type := 9, pos := "l11_access.go:100", after := #[{ on := 11, ground := Ground.data }], guard := none }) rfl (fun K hK => ?_) AllReadyH.nil
    (go_simp; try (go_wp2_with fail))
    refine hK.out _ _ (ST.out _ BO.out) (fun hHeld => ?_)
    clear hK K
    try simp only [Act.put, List.setIfInBounds_toArray, List.set_cons_zero, List.set_cons_succ]
    refine wpAnyH_ready (rs := [14]) (by kernel_rfl) (by simp) ?_
    refine AllReadyH.cons (o := { dst := some 28, op := Op.buildSlice 42 5 #[(0, Operand.tmp 14), (1, Operand.tmp 16), (2, Operand.tmp 21), (3, Operand.tmp 26), (4, Operand.tmp 27)], type := 42, pos := "l11_access.go:100", after := #[{ on := 0, ground := Ground.data }, { on := 2, ground := Ground.data }, { on := 7, ground := Ground.data }, { on := 12, ground := Ground.data }, { on := 13, ground := Ground.data }], guard := none }) rfl (fun K hK => ?_) AllReadyH.nil
    (go_simp; try (go_wp2_with fail))
    refine hK.out _ _ (ST.out _ (chain BO.out (below1 w9 _))) (fun hHeld => ?_)
    clear hK K
    try simp only [Act.put, List.setIfInBounds_toArray, List.set_cons_zero, List.set_cons_succ]
    refine tke 15 (some 5) (.slice (some ⟨w9.heap.size, 0, none⟩) 5 5) rfl rfl ?_
    try simp only [Act.put, List.setIfInBounds_toArray, List.set_cons_zero, List.set_cons_succ]
    refine wpAnyH_done (by kernel_rfl) ?_ _
    exact J _ _ _ _ _ _ _ _ _ _ _ _ _ _ _ _ _ _ _ _ _ _ _ w9 BO.out
  · (go_simp; go_at_call 37; refine (CO.out _).mono ?_; rintro e w9 ⟨rfl, x9, l9, b9⟩; have bo : Below w8.heap.size w8 w9 := ⟨b9.os, b9.tape, b9.output, b9.size, b9.block⟩; have BO : Hid (Below w1.heap.size w1 w9) := chain BM.out bo; have X9 : w9.cell? ⟨w8.heap.size, r.on.toNat, none⟩ = some (.string ot) := x9; have X7 : w9.cell? ⟨w1.heap.size, r.may.toNat, none⟩ = some (.string mt) := (bo.cell (p := ⟨w1.heap.size, r.may.toNat, none⟩) L8).trans X8; clear b9 x9 l9 bo; try (go_wp2_with fail))
    refine hK.out _ _ (ST.out _ BO.out) (fun hHeld => ?_)
    clear hK K
    try simp only [Act.put, List.setIfInBounds_toArray, List.set_cons_zero, List.set_cons_succ]
    refine tke 11 (some 25) (.pointer (some ⟨w8.heap.size, r.on.toNat, none⟩)) rfl rfl ?_
    try simp only [Act.put, List.setIfInBounds_toArray, List.set_cons_zero, List.set_cons_succ]
    refine wpAnyH_ready (rs := [7, 12]) (by kernel_rfl) (by simp) ?_
    refine AllReadyH.cons (o := { dst := some 21, op := Op.load 9 (Operand.tmp 20), type := 9, pos := "l11_access.go:100", after := #[{ on := 6, ground := Ground.data }], guard := none }) rfl (fun K hK => ?_) (AllReadyH.cons (o := { dst := some 26, op := Op.load 9 (Operand.tmp 25), type := 9, pos := "l11_access.go:100", after := #[{ on := 11, ground := Ground.data }], guard := none }) rfl (fun K hK => ?_) AllReadyH.nil)
    · (go_simp; try (go_wp2_with fail))
      refine hK.out _ _ (ST.out _ BO.out) (fun hHeld => ?_)
      clear hK K
      try simp only [Act.put, List.setIfInBounds_toArray, List.set_cons_zero, List.set_cons_succ]
      refine wpAnyH_ready (rs := [12]) (by kernel_rfl) (by simp) ?_
      refine AllReadyH.cons (o := { dst := some 26, op := Op.load 9 (Operand.tmp 25), type := 9, pos := "l11_access.go:100", after := #[{ on := 11, ground := Ground.data }], guard := none }) rfl (fun K hK => ?_) AllReadyH.nil
      (go_simp; try (go_wp2_with fail))
      refine hK.out _ _ (ST.out _ BO.out) (fun hHeld => ?_)
      clear hK K
      try simp only [Act.put, List.setIfInBounds_toArray, List.set_cons_zero, List.set_cons_succ]
      refine wpAnyH_ready (rs := [14]) (by kernel_rfl) (by simp) ?_
      refine AllReadyH.cons (o := { dst := some 28, op := Op.buildSlice 42 5 #[(0, Operand.tmp 14), (1, Operand.tmp 16), (2, Operand.tmp 21), (3, Operand.tmp 26), (4, Operand.tmp 27)], type := 42, pos := "l11_access.go:100", after := #[{ on := 0, ground := Ground.data }, { on := 2, ground := Ground.data }, { on := 7, ground := Ground.data }, { on := 12, ground := Ground.data }, { on := 13, ground := Ground.data }], guard := none }) rfl (fun K hK => ?_) AllReadyH.nil
      (go_simp; try (go_wp2_with fail))
      refine hK.out _ _ (ST.out _ (chain BO.out (below1 w9 _))) (fun hHeld => ?_)
      clear hK K
      try simp only [Act.put, List.setIfInBounds_toArray, List.set_cons_zero, List.set_cons_succ]
      refine tke 15 (some 5) (.slice (some ⟨w9.heap.size, 0, none⟩) 5 5) rfl rfl ?_
      try simp only [Act.put, List.setIfInBounds_toArray, List.set_cons_zero, List.set_cons_succ]
      refine wpAnyH_done (by kernel_rfl) ?_ _
      exact J _ _ _ _ _ _ _ _ _ _ _ _ _ _ _ _ _ _ _ _ _ _ _ w9 BO.out
    · (go_simp; try (go_wp2_with fail))
      refine hK.out _ _ (ST.out _ BO.out) (fun hHeld => ?_)
      clear hK K
      try simp only [Act.put, List.setIfInBounds_toArray, List.set_cons_zero, List.set_cons_succ]
      refine wpAnyH_ready (rs := [7]) (by kernel_rfl) (by simp) ?_
      refine AllReadyH.cons (o := { dst := some 21, op := Op.load 9 (Operand.tmp 20), type := 9, pos := "l11_access.go:100", after := #[{ on := 6, ground := Ground.data }], guard := none }) rfl (fun K hK => ?_) AllReadyH.nil
      (go_simp; try (go_wp2_with fail))
      refine hK.out _ _ (ST.out _ BO.out) (fun hHeld => ?_)
      clear hK K
      try simp only [Act.put, List.setIfInBounds_toArray, List.set_cons_zero, List.set_cons_succ]
      refine wpAnyH_ready (rs := [14]) (by kernel_rfl) (by simp) ?_
      refine AllReadyH.cons (o := { dst := some 28, op := Op.buildSlice 42 5 #[(0, Operand.tmp 14), (1, Operand.tmp 16), (2, Operand.tmp 21), (3, Operand.tmp 26), (4, Operand.tmp 27)], type := 42, pos := "l11_access.go:100", after := #[{ on := 0, ground := Ground.data }, { on := 2, ground := Ground.data }, { on := 7, ground := Ground.data }, { on := 12, ground := Ground.data }, { on := 13, ground := Ground.data }], guard := none }) rfl (fun K hK => ?_) AllReadyH.nil
      (go_simp; try (go_wp2_with fail))
      refine hK.out _ _ (ST.out _ (chain BO.out (below1 w9 _))) (fun hHeld => ?_)
      clear hK K
      try simp only [Act.put, List.setIfInBounds_toArray, List.set_cons_zero, List.set_cons_succ]
      refine tke 15 (some 5) (.slice (some ⟨w9.heap.size, 0, none⟩) 5 5) rfl rfl ?_
      try simp only [Act.put, List.setIfInBounds_toArray, List.set_cons_zero, List.set_cons_succ]
      refine wpAnyH_done (by kernel_rfl) ?_ _
      exact J _ _ _ _ _ _ _ _ _ _ _ _ _ _ _ _ _ _ _ _ _ _ _ w9 BO.out
set_option maxHeartbeats 6400000 in
theorem line_tf (r : Rul) (w : World) (ok : okR r = true) (hd : r.deny = true) (hb : r.begins = false) :
    Calls Try.prog 32 #[.agg (rrow r)] w fun e w' => e = .returned (.string (line r)) ∧ Below w.heap.size w w' := by
  have s1 : r.who.size ≤ 20 := by simp only [okR, Bool.and_eq_true] at ok; exact who_small ok.1
  have s2 : r.name.size ≤ 20 := by simp only [okR, Bool.and_eq_true] at ok; exact nm_small ok.2.2.2
  have s3 := may_small r.may
  have s4 := on_small r.on
  have m1 : 1 ≤ r.may ∧ r.may ≤ 4 := by simp only [okR, Bool.and_eq_true] at ok; exact inR_true ok.2.1
  have m2 : 1 ≤ r.on ∧ r.on ≤ 2 := by simp only [okR, Bool.and_eq_true] at ok; exact inR_true ok.2.2.1
  have m3 : (0 : Int) ≤ r.may := by omega
  have m4 : r.may < (5 : Int) := by omega
  have m5 : (0 : Int) ≤ r.on := by omega
  have m6 : r.on < (3 : Int) := by omega
  have CM : Hid (∀ wx, Calls Try.prog 36 #[] wx fun e w' => e = .returned (.slice (some ⟨wx.heap.size, 0, none⟩) 5 5) ∧ w'.cell? ⟨wx.heap.size, r.may.toNat, none⟩ = some (.string (mayT r.may)) ∧ wx.heap.size < w'.heap.size ∧ Below wx.heap.size wx w') := fun wx => (may_any wx).mono fun e w' ⟨a, b, c, d⟩ => ⟨a, b _ (by omega), c, d⟩
  have CO : Hid (∀ wx, Calls Try.prog 37 #[] wx fun e w' => e = .returned (.slice (some ⟨wx.heap.size, 0, none⟩) 3 3) ∧ w'.cell? ⟨wx.heap.size, r.on.toNat, none⟩ = some (.string (onT r.on)) ∧ wx.heap.size < w'.heap.size ∧ Below wx.heap.size wx w') := fun wx => (on_any wx).mono fun e w' ⟨a, b, c, d⟩ => ⟨a, b _ (by omega), c, d⟩
  have FIN : Hid ((⟨(Lib.join ([(⟨#[100, 101, 110, 121]⟩ : ByteArray), r.who, mayT r.may, onT r.on, r.name].map (·.data.toList)) (⟨#[32]⟩ : ByteArray).data.toList).toArray⟩ : ByteArray) ++ ⟨#[10]⟩ = line r) := by
    show _ = _
    have := line_join r
    rw [hd, hb] at this
    exact this
  have LS := Seg.hid (line_small ok)
  have CJ : Hid (∀ (wy wx : World), wx.heap = (wy.alloc (.cells #[.string (⟨#[100, 101, 110, 121]⟩ : ByteArray), .string r.who, .string (mayT r.may), .string (onT r.on), .string r.name] 9 (0, 0))).heap → Calls Try.prog 33 #[.slice (some ⟨wy.heap.size, 0, none⟩) 5 5, .string ⟨#[32]⟩] wx fun x w' => x = .returned (.string ⟨(Lib.join ([(⟨#[100, 101, 110, 121]⟩ : ByteArray), r.who, mayT r.may, onT r.on, r.name].map (·.data.toList)) (⟨#[32]⟩ : ByteArray).data.toList).toArray⟩) ∧ Below wx.heap.size wx w') := fun wy wx hx => join5 _ _ _ _ _ (by decide) (by omega) (by omega) (by omega) (by omega) wy wx hx
  unfold rrow
  rw [hd, hb]
  clear ok m1 m2 hd hb s3 s4
  generalize mayT r.may = mt at *
  generalize onT r.on = ot at *
  have g1 : ¬ 9223372036854775807 < r.name.size + 1 := by omega
  go_enter Try.func32, Try.ntmps32
  go_upto_region 1 with fail
  go_quiet (fail)
  go_upto_region 6 with fail
  obtain ⟨w1, hw1⟩ : ∃ w1, (w.alloc (.cells #[.bool true, .string r.who, .int .i64 r.may, .int .i64 r.on, .string r.name, .bool false] 30 (0, 0))).drewN nq = w1 := ⟨_, rfl⟩
  rw [hw1]
  have R1 : Hid (w1.heap[w.heap.size]? = some (.cells #[.bool true, .string r.who, .int .i64 r.may, .int .i64 r.on, .string r.name, .bool false] 30 (0, 0))) := by show _ = _; rw [← hw1]; exact heap_alloc_new _ _
  have B1 : Hid (Below w.heap.size w w1) := by show Below _ _ _; rw [← hw1]; exact (have q := below1 w (.cells #[.bool true, .string r.who, .int .i64 r.may, .int .i64 r.on, .string r.name, .bool false] 30 (0, 0)); ⟨q.os, q.tape, q.output, q.size, q.block⟩)
  have hl1 : w.heap.size < w1.heap.size := (Array.getElem?_eq_some_iff.1 R1.out).1
  have ST : Hid (∀ wx, Below w1.heap.size w1 wx → wx.cell? ⟨w.heap.size, 1, none⟩ = some (.string r.who) ∧ wx.cell? ⟨w.heap.size, 2, none⟩ = some (.int .i64 r.may) ∧ wx.cell? ⟨w.heap.size, 3, none⟩ = some (.int .i64 r.on)) := fun wx b => by
    have hR : wx.heap[w.heap.size]? = some (.cells #[.bool true, .string r.who, .int .i64 r.may, .int .i64 r.on, .string r.name, .bool false] 30 (0, 0)) := by rw [b.block _ hl1]; exact R1.out
    exact ⟨cell_of_row wx _ 1 _ _ (0, 0) hR, cell_of_row wx _ 2 _ _ (0, 0) hR, cell_of_row wx _ 3 _ _ (0, 0) hR⟩
  clear hw1
  rename_i K0 aK0
  have J : ∀ (x6 x7 x8 x9 x10 x11 x12 x13 x14 x15 x16 x17 x18 x19 x20 x21 x22 x23 x24 x25 x26 x27 x28 : Value) (wx : World), Below w1.heap.size w1 wx → K0 { tmps := #[.agg #[.bool true, .string r.who, .int .i64 r.may, .int .i64 r.on, .string r.name, .bool false], .pointer (some ⟨w.heap.size, 0, none⟩), .string ⟨#[]⟩, .string (⟨#[100, 101, 110, 121]⟩ : ByteArray), .string r.name, .slice (some ⟨wx.heap.size, 0, none⟩) 5 5, x6, x7, x8, x9, x10, x11, x12, x13, x14, x15, x16, x17, x18, x19, x20, x21, x22, x23, x24, x25, x26, x27, x28, undef, undef, undef], defers := [] } (wx.alloc (.cells #[.string (⟨#[100, 101, 110, 121]⟩ : ByteArray), .string r.who, .string mt, .string ot, .string r.name] 9 (0, 0))) := by
    intro x6 x7 x8 x9 x10 x11 x12 x13 x14 x15 x16 x17 x18 x19 x20 x21 x22 x23 x24 x25 x26 x27 x28 wx bx
    have BX := Seg.hid (chain (chain B1.out bx) (below1 wx (.cells #[.string (⟨#[100, 101, 110, 121]⟩ : ByteArray), .string r.who, .string mt, .string ot, .string r.name] 9 (0, 0))))
    have CX := Seg.hid (CJ.out wx (wx.alloc (.cells #[.string (⟨#[100, 101, 110, 121]⟩ : ByteArray), .string r.who, .string mt, .string ot, .string r.name] 9 (0, 0))) rfl)
    clear bx ST CM CO CJ
    generalize (⟨(Lib.join ([(⟨#[100, 101, 110, 121]⟩ : ByteArray), r.who, mt, ot, r.name].map (·.data.toList)) (⟨#[32]⟩ : ByteArray).data.toList).toArray⟩ : ByteArray) = s at *
    generalize wx.alloc (.cells #[.string (⟨#[100, 101, 110, 121]⟩ : ByteArray), .string r.who, .string mt, .string ot, .string r.name] 9 (0, 0)) = wy at *
    have z1 : ¬ 9223372036854775807 < s.size + 1 := by have := LS.out; rw [← FIN.out, ByteArray.size_append, s10] at this; omega
    refine aK0 _ _ ?_
    clear aK0
    go_wp2_with (go_at_call 33; refine CX.out.mono ?_; rintro e w9 ⟨rfl, b9⟩; have B9 := Seg.hid b9; clear b9)
    go_ret
    exact ⟨by rw [← FIN.out]; rfl, chain BX.out B9.out⟩
  clear aK0
  refine wp_region_held_drew (S := (fun w' => w'.cell? ⟨w.heap.size, 1, none⟩ = some (.string r.who) ∧ w'.cell? ⟨w.heap.size, 2, none⟩ = some (.int .i64 r.may) ∧ w'.cell? ⟨w.heap.size, 3, none⟩ = some (.int .i64 r.on))) (by kernel_rfl) (ST.out _ (Below.refl _ _).drew) (fun hHeld => ?_)
  refine tke 0 (some 14) (.string (⟨#[100, 101, 110, 121]⟩ : ByteArray)) rfl rfl ?_
  try simp only [Act.put, List.setIfInBounds_toArray, List.set_cons_zero, List.set_cons_succ]
  refine tke 1 (some 15) (.pointer (some ⟨w.heap.size, 1, none⟩)) rfl rfl ?_
  try simp only [Act.put, List.setIfInBounds_toArray, List.set_cons_zero, List.set_cons_succ]
  refine tke 2 (some 16) (.string r.who) rfl rfl ?_
  try simp only [Act.put, List.setIfInBounds_toArray, List.set_cons_zero, List.set_cons_succ]
  refine tke 4 (some 18) (.pointer (some ⟨w.heap.size, 2, none⟩)) rfl rfl ?_
  try simp only [Act.put, List.setIfInBounds_toArray, List.set_cons_zero, List.set_cons_succ]
  refine tke 5 (some 19) (.int .i64 r.may) rfl rfl ?_
  try simp only [Act.put, List.setIfInBounds_toArray, List.set_cons_zero, List.set_cons_succ]
  refine tke 9 (some 23) (.pointer (some ⟨w.heap.size, 3, none⟩)) rfl rfl ?_
  try simp only [Act.put, List.setIfInBounds_toArray, List.set_cons_zero, List.set_cons_succ]
  refine tke 10 (some 24) (.int .i64 r.on) rfl rfl ?_
  try simp only [Act.put, List.setIfInBounds_toArray, List.set_cons_zero, List.set_cons_succ]
  refine tke 13 (some 27) (.string r.name) rfl rfl ?_
  try simp only [Act.put, List.setIfInBounds_toArray, List.set_cons_zero, List.set_cons_succ]
  refine wpAnyH_ready (rs := [3]) (by kernel_rfl) (by simp) ?_
  refine AllReadyH.cons (o := { dst := some 17, op := Op.call { callee := Callee.value (Operand.func 36), args := #[], argTypes := #[] }, type := 42, pos := "l11_access.go:100", after := #[], guard := none }) rfl (fun K hK => ?_) AllReadyH.nil
  (go_simp; go_at_call 36; refine (CM.out _).mono ?_; rintro e w8 ⟨rfl, x8, l8, b8⟩; have BM : Hid (Below w1.heap.size w1 w8) := ⟨b8.os, b8.tape, b8.output, b8.size, b8.block⟩; have X8 : w8.cell? ⟨w1.heap.size, r.may.toNat, none⟩ = some (.string mt) := x8; have L8 : w1.heap.size < w8.heap.size := l8; clear b8 x8 l8; try (go_wp2_with fail))
  refine hK.out _ _ (ST.out _ BM.out) (fun hHeld => ?_)
  clear hK K
  try simp only [Act.put, List.setIfInBounds_toArray, List.set_cons_zero, List.set_cons_succ]
  refine tke 6 (some 20) (.pointer (some ⟨w1.heap.size, r.may.toNat, none⟩)) rfl rfl ?_
  try simp only [Act.put, List.setIfInBounds_toArray, List.set_cons_zero, List.set_cons_succ]
  refine wpAnyH_ready (rs := [7, 8]) (by kernel_rfl) (by simp) ?_
  refine AllReadyH.cons (o := { dst := some 21, op := Op.load 9 (Operand.tmp 20), type := 9, pos := "l11_access.go:100", after := #[{ on := 6, ground := Ground.data }], guard := none }) rfl (fun K hK => ?_) (AllReadyH.cons (o := { dst := some 22, op := Op.call { callee := Callee.value (Operand.func 37), args := #[], argTypes := #[] }, type := 42, pos := "l11_access.go:100", after := #[{ on := 3, ground := Ground.chain }], guard := none }) rfl (fun K hK => ?_) AllReadyH.nil)
  · (go_simp; try (go_wp2_with fail))
    refine hK.out _ _ (ST.out _ BM.out) (fun hHeld => ?_)
    clear hK K
    try simp only [Act.put, List.setIfInBounds_toArray, List.set_cons_zero, List.set_cons_succ]
    refine wpAnyH_ready (rs := [8]) (by kernel_rfl) (by simp) ?_
    refine AllReadyH.cons (o := { dst := some 22, op := Op.call { callee := Callee.value (Operand.func 37), args := #[], argTypes := #[] }, type := 42, pos := "l11_access.go:100", after := #[{ on := 3, ground := Ground.chain }], guard := none }) rfl (fun K hK => ?_) AllReadyH.nil
    (go_simp; go_at_call 37; refine (CO.out _).mono ?_; rintro e w9 ⟨rfl, x9, l9, b9⟩; have bo : Below w8.heap.size w8 w9 := ⟨b9.os, b9.tape, b9.output, b9.size, b9.block⟩; have BO : Hid (Below w1.heap.size w1 w9) := chain BM.out bo; have X9 : w9.cell? ⟨w8.heap.size, r.on.toNat, none⟩ = some (.string ot) := x9; have X7 : w9.cell? ⟨w1.heap.size, r.may.toNat, none⟩ = some (.string mt) := (bo.cell (p := ⟨w1.heap.size, r.may.toNat, none⟩) L8).trans X8; clear b9 x9 l9 bo; try (go_wp2_with fail))
    refine hK.out _ _ (ST.out _ BO.out) (fun hHeld => ?_)
    clear hK K
    try simp only [Act.put, List.setIfInBounds_toArray, List.set_cons_zero, List.set_cons_succ]
    refine tke 11 (some 25) (.pointer (some ⟨w8.heap.size, r.on.toNat, none⟩)) rfl rfl ?_
    try simp only [Act.put, List.setIfInBounds_toArray, List.set_cons_zero, List.set_cons_succ]
    refine wpAnyH_ready (rs := [12]) (by kernel_rfl) (by simp) ?_
    refine AllReadyH.cons (o := { dst := some 26, op := Op.load 9 (Operand.tmp 25), type := 9, pos := "l11_access.go:100", after := #[{ on := 11, ground := Ground.data }], guard := none }) rfl (fun K hK => ?_) AllReadyH.nil
    (go_simp; try (go_wp2_with fail))
    refine hK.out _ _ (ST.out _ BO.out) (fun hHeld => ?_)
    clear hK K
    try simp only [Act.put, List.setIfInBounds_toArray, List.set_cons_zero, List.set_cons_succ]
    refine wpAnyH_ready (rs := [14]) (by kernel_rfl) (by simp) ?_
    refine AllReadyH.cons (o := { dst := some 28, op := Op.buildSlice 42 5 #[(0, Operand.tmp 14), (1, Operand.tmp 16), (2, Operand.tmp 21), (3, Operand.tmp 26), (4, Operand.tmp 27)], type := 42, pos := "l11_access.go:100", after := #[{ on := 0, ground := Ground.data }, { on := 2, ground := Ground.data }, { on := 7, ground := Ground.data }, { on := 12, ground := Ground.data }, { on := 13, ground := Ground.data }], guard := none }) rfl (fun K hK => ?_) AllReadyH.nil
    (go_simp; try (go_wp2_with fail))
    refine hK.out _ _ (ST.out _ (chain BO.out (below1 w9 _))) (fun hHeld => ?_)
    clear hK K
    try simp only [Act.put, List.setIfInBounds_toArray, List.set_cons_zero, List.set_cons_succ]
    refine tke 15 (some 5) (.slice (some ⟨w9.heap.size, 0, none⟩) 5 5) rfl rfl ?_
    try simp only [Act.put, List.setIfInBounds_toArray, List.set_cons_zero, List.set_cons_succ]
    refine wpAnyH_done (by kernel_rfl) ?_ _
    exact J _ _ _ _ _ _ _ _ _ _ _ _ _ _ _ _ _ _ _ _ _ _ _ w9 BO.out
  · (go_simp; go_at_call 37; refine (CO.out _).mono ?_; rintro e w9 ⟨rfl, x9, l9, b9⟩; have bo : Below w8.heap.size w8 w9 := ⟨b9.os, b9.tape, b9.output, b9.size, b9.block⟩; have BO : Hid (Below w1.heap.size w1 w9) := chain BM.out bo; have X9 : w9.cell? ⟨w8.heap.size, r.on.toNat, none⟩ = some (.string ot) := x9; have X7 : w9.cell? ⟨w1.heap.size, r.may.toNat, none⟩ = some (.string mt) := (bo.cell (p := ⟨w1.heap.size, r.may.toNat, none⟩) L8).trans X8; clear b9 x9 l9 bo; try (go_wp2_with fail))
    refine hK.out _ _ (ST.out _ BO.out) (fun hHeld => ?_)
    clear hK K
    try simp only [Act.put, List.setIfInBounds_toArray, List.set_cons_zero, List.set_cons_succ]
    refine tke 11 (some 25) (.pointer (some ⟨w8.heap.size, r.on.toNat, none⟩)) rfl rfl ?_
    try simp only [Act.put, List.setIfInBounds_toArray, List.set_cons_zero, List.set_cons_succ]
    refine wpAnyH_ready (rs := [7, 12]) (by kernel_rfl) (by simp) ?_
    refine AllReadyH.cons (o := { dst := some 21, op := Op.load 9 (Operand.tmp 20), type := 9, pos := "l11_access.go:100", after := #[{ on := 6, ground := Ground.data }], guard := none }) rfl (fun K hK => ?_) (AllReadyH.cons (o := { dst := some 26, op := Op.load 9 (Operand.tmp 25), type := 9, pos := "l11_access.go:100", after := #[{ on := 11, ground := Ground.data }], guard := none }) rfl (fun K hK => ?_) AllReadyH.nil)
    · (go_simp; try (go_wp2_with fail))
      refine hK.out _ _ (ST.out _ BO.out) (fun hHeld => ?_)
      clear hK K
      try simp only [Act.put, List.setIfInBounds_toArray, List.set_cons_zero, List.set_cons_succ]
      refine wpAnyH_ready (rs := [12]) (by kernel_rfl) (by simp) ?_
      refine AllReadyH.cons (o := { dst := some 26, op := Op.load 9 (Operand.tmp 25), type := 9, pos := "l11_access.go:100", after := #[{ on := 11, ground := Ground.data }], guard := none }) rfl (fun K hK => ?_) AllReadyH.nil
      (go_simp; try (go_wp2_with fail))
      refine hK.out _ _ (ST.out _ BO.out) (fun hHeld => ?_)
      clear hK K
      try simp only [Act.put, List.setIfInBounds_toArray, List.set_cons_zero, List.set_cons_succ]
      refine wpAnyH_ready (rs := [14]) (by kernel_rfl) (by simp) ?_
      refine AllReadyH.cons (o := { dst := some 28, op := Op.buildSlice 42 5 #[(0, Operand.tmp 14), (1, Operand.tmp 16), (2, Operand.tmp 21), (3, Operand.tmp 26), (4, Operand.tmp 27)], type := 42, pos := "l11_access.go:100", after := #[{ on := 0, ground := Ground.data }, { on := 2, ground := Ground.data }, { on := 7, ground := Ground.data }, { on := 12, ground := Ground.data }, { on := 13, ground := Ground.data }], guard := none }) rfl (fun K hK => ?_) AllReadyH.nil
      (go_simp; try (go_wp2_with fail))
      refine hK.out _ _ (ST.out _ (chain BO.out (below1 w9 _))) (fun hHeld => ?_)
      clear hK K
      try simp only [Act.put, List.setIfInBounds_toArray, List.set_cons_zero, List.set_cons_succ]
      refine tke 15 (some 5) (.slice (some ⟨w9.heap.size, 0, none⟩) 5 5) rfl rfl ?_
      try simp only [Act.put, List.setIfInBounds_toArray, List.set_cons_zero, List.set_cons_succ]
      refine wpAnyH_done (by kernel_rfl) ?_ _
      exact J _ _ _ _ _ _ _ _ _ _ _ _ _ _ _ _ _ _ _ _ _ _ _ w9 BO.out
    · (go_simp; try (go_wp2_with fail))
      refine hK.out _ _ (ST.out _ BO.out) (fun hHeld => ?_)
      clear hK K
      try simp only [Act.put, List.setIfInBounds_toArray, List.set_cons_zero, List.set_cons_succ]
      refine wpAnyH_ready (rs := [7]) (by kernel_rfl) (by simp) ?_
      refine AllReadyH.cons (o := { dst := some 21, op := Op.load 9 (Operand.tmp 20), type := 9, pos := "l11_access.go:100", after := #[{ on := 6, ground := Ground.data }], guard := none }) rfl (fun K hK => ?_) AllReadyH.nil
      (go_simp; try (go_wp2_with fail))
      refine hK.out _ _ (ST.out _ BO.out) (fun hHeld => ?_)
      clear hK K
      try simp only [Act.put, List.setIfInBounds_toArray, List.set_cons_zero, List.set_cons_succ]
      refine wpAnyH_ready (rs := [14]) (by kernel_rfl) (by simp) ?_
      refine AllReadyH.cons (o := { dst := some 28, op := Op.buildSlice 42 5 #[(0, Operand.tmp 14), (1, Operand.tmp 16), (2, Operand.tmp 21), (3, Operand.tmp 26), (4, Operand.tmp 27)], type := 42, pos := "l11_access.go:100", after := #[{ on := 0, ground := Ground.data }, { on := 2, ground := Ground.data }, { on := 7, ground := Ground.data }, { on := 12, ground := Ground.data }, { on := 13, ground := Ground.data }], guard := none }) rfl (fun K hK => ?_) AllReadyH.nil
      (go_simp; try (go_wp2_with fail))
      refine hK.out _ _ (ST.out _ (chain BO.out (below1 w9 _))) (fun hHeld => ?_)
      clear hK K
      try simp only [Act.put, List.setIfInBounds_toArray, List.set_cons_zero, List.set_cons_succ]
      refine tke 15 (some 5) (.slice (some ⟨w9.heap.size, 0, none⟩) 5 5) rfl rfl ?_
      try simp only [Act.put, List.setIfInBounds_toArray, List.set_cons_zero, List.set_cons_succ]
      refine wpAnyH_done (by kernel_rfl) ?_ _
      exact J _ _ _ _ _ _ _ _ _ _ _ _ _ _ _ _ _ _ _ _ _ _ _ w9 BO.out
set_option maxHeartbeats 6400000 in
theorem line_tt (r : Rul) (w : World) (ok : okR r = true) (hd : r.deny = true) (hb : r.begins = true) :
    Calls Try.prog 32 #[.agg (rrow r)] w fun e w' => e = .returned (.string (line r)) ∧ Below w.heap.size w w' := by
  have s1 : r.who.size ≤ 20 := by simp only [okR, Bool.and_eq_true] at ok; exact who_small ok.1
  have s2 : r.name.size ≤ 20 := by simp only [okR, Bool.and_eq_true] at ok; exact nm_small ok.2.2.2
  have s3 := may_small r.may
  have s4 := on_small r.on
  have m1 : 1 ≤ r.may ∧ r.may ≤ 4 := by simp only [okR, Bool.and_eq_true] at ok; exact inR_true ok.2.1
  have m2 : 1 ≤ r.on ∧ r.on ≤ 2 := by simp only [okR, Bool.and_eq_true] at ok; exact inR_true ok.2.2.1
  have m3 : (0 : Int) ≤ r.may := by omega
  have m4 : r.may < (5 : Int) := by omega
  have m5 : (0 : Int) ≤ r.on := by omega
  have m6 : r.on < (3 : Int) := by omega
  have CM : Hid (∀ wx, Calls Try.prog 36 #[] wx fun e w' => e = .returned (.slice (some ⟨wx.heap.size, 0, none⟩) 5 5) ∧ w'.cell? ⟨wx.heap.size, r.may.toNat, none⟩ = some (.string (mayT r.may)) ∧ wx.heap.size < w'.heap.size ∧ Below wx.heap.size wx w') := fun wx => (may_any wx).mono fun e w' ⟨a, b, c, d⟩ => ⟨a, b _ (by omega), c, d⟩
  have CO : Hid (∀ wx, Calls Try.prog 37 #[] wx fun e w' => e = .returned (.slice (some ⟨wx.heap.size, 0, none⟩) 3 3) ∧ w'.cell? ⟨wx.heap.size, r.on.toNat, none⟩ = some (.string (onT r.on)) ∧ wx.heap.size < w'.heap.size ∧ Below wx.heap.size wx w') := fun wx => (on_any wx).mono fun e w' ⟨a, b, c, d⟩ => ⟨a, b _ (by omega), c, d⟩
  have FIN : Hid ((⟨(Lib.join ([(⟨#[100, 101, 110, 121]⟩ : ByteArray), r.who, mayT r.may, onT r.on, (r.name ++ (⟨#[42]⟩ : ByteArray))].map (·.data.toList)) (⟨#[32]⟩ : ByteArray).data.toList).toArray⟩ : ByteArray) ++ ⟨#[10]⟩ = line r) := by
    show _ = _
    have := line_join r
    rw [hd, hb] at this
    exact this
  have LS := Seg.hid (line_small ok)
  have CJ : Hid (∀ (wy wx : World), wx.heap = (wy.alloc (.cells #[.string (⟨#[100, 101, 110, 121]⟩ : ByteArray), .string r.who, .string (mayT r.may), .string (onT r.on), .string (r.name ++ (⟨#[42]⟩ : ByteArray))] 9 (0, 0))).heap → Calls Try.prog 33 #[.slice (some ⟨wy.heap.size, 0, none⟩) 5 5, .string ⟨#[32]⟩] wx fun x w' => x = .returned (.string ⟨(Lib.join ([(⟨#[100, 101, 110, 121]⟩ : ByteArray), r.who, mayT r.may, onT r.on, (r.name ++ (⟨#[42]⟩ : ByteArray))].map (·.data.toList)) (⟨#[32]⟩ : ByteArray).data.toList).toArray⟩) ∧ Below wx.heap.size wx w') := fun wy wx hx => join5 _ _ _ _ _ (by decide) (by omega) (by omega) (by omega) (by rw [ByteArray.size_append, s42]; omega) wy wx hx
  unfold rrow
  rw [hd, hb]
  clear ok m1 m2 hd hb s3 s4
  generalize mayT r.may = mt at *
  generalize onT r.on = ot at *
  have g1 : ¬ 9223372036854775807 < r.name.size + 1 := by omega
  go_enter Try.func32, Try.ntmps32
  go_upto_region 1 with fail
  go_quiet (fail)
  go_upto_region 6 with fail
  obtain ⟨w1, hw1⟩ : ∃ w1, (w.alloc (.cells #[.bool true, .string r.who, .int .i64 r.may, .int .i64 r.on, .string r.name, .bool true] 30 (0, 0))).drewN nq = w1 := ⟨_, rfl⟩
  rw [hw1]
  have R1 : Hid (w1.heap[w.heap.size]? = some (.cells #[.bool true, .string r.who, .int .i64 r.may, .int .i64 r.on, .string r.name, .bool true] 30 (0, 0))) := by show _ = _; rw [← hw1]; exact heap_alloc_new _ _
  have B1 : Hid (Below w.heap.size w w1) := by show Below _ _ _; rw [← hw1]; exact (have q := below1 w (.cells #[.bool true, .string r.who, .int .i64 r.may, .int .i64 r.on, .string r.name, .bool true] 30 (0, 0)); ⟨q.os, q.tape, q.output, q.size, q.block⟩)
  have hl1 : w.heap.size < w1.heap.size := (Array.getElem?_eq_some_iff.1 R1.out).1
  have ST : Hid (∀ wx, Below w1.heap.size w1 wx → wx.cell? ⟨w.heap.size, 1, none⟩ = some (.string r.who) ∧ wx.cell? ⟨w.heap.size, 2, none⟩ = some (.int .i64 r.may) ∧ wx.cell? ⟨w.heap.size, 3, none⟩ = some (.int .i64 r.on)) := fun wx b => by
    have hR : wx.heap[w.heap.size]? = some (.cells #[.bool true, .string r.who, .int .i64 r.may, .int .i64 r.on, .string r.name, .bool true] 30 (0, 0)) := by rw [b.block _ hl1]; exact R1.out
    exact ⟨cell_of_row wx _ 1 _ _ (0, 0) hR, cell_of_row wx _ 2 _ _ (0, 0) hR, cell_of_row wx _ 3 _ _ (0, 0) hR⟩
  clear hw1
  rename_i K0 aK0
  have J : ∀ (x6 x7 x8 x9 x10 x11 x12 x13 x14 x15 x16 x17 x18 x19 x20 x21 x22 x23 x24 x25 x26 x27 x28 : Value) (wx : World), Below w1.heap.size w1 wx → K0 { tmps := #[.agg #[.bool true, .string r.who, .int .i64 r.may, .int .i64 r.on, .string r.name, .bool true], .pointer (some ⟨w.heap.size, 0, none⟩), .string ⟨#[]⟩, .string (⟨#[100, 101, 110, 121]⟩ : ByteArray), .string (r.name ++ (⟨#[42]⟩ : ByteArray)), .slice (some ⟨wx.heap.size, 0, none⟩) 5 5, x6, x7, x8, x9, x10, x11, x12, x13, x14, x15, x16, x17, x18, x19, x20, x21, x22, x23, x24, x25, x26, x27, x28, undef, undef, undef], defers := [] } (wx.alloc (.cells #[.string (⟨#[100, 101, 110, 121]⟩ : ByteArray), .string r.who, .string mt, .string ot, .string (r.name ++ (⟨#[42]⟩ : ByteArray))] 9 (0, 0))) := by
    intro x6 x7 x8 x9 x10 x11 x12 x13 x14 x15 x16 x17 x18 x19 x20 x21 x22 x23 x24 x25 x26 x27 x28 wx bx
    have BX := Seg.hid (chain (chain B1.out bx) (below1 wx (.cells #[.string (⟨#[100, 101, 110, 121]⟩ : ByteArray), .string r.who, .string mt, .string ot, .string (r.name ++ (⟨#[42]⟩ : ByteArray))] 9 (0, 0))))
    have CX := Seg.hid (CJ.out wx (wx.alloc (.cells #[.string (⟨#[100, 101, 110, 121]⟩ : ByteArray), .string r.who, .string mt, .string ot, .string (r.name ++ (⟨#[42]⟩ : ByteArray))] 9 (0, 0))) rfl)
    clear bx ST CM CO CJ
    generalize (⟨(Lib.join ([(⟨#[100, 101, 110, 121]⟩ : ByteArray), r.who, mt, ot, (r.name ++ (⟨#[42]⟩ : ByteArray))].map (·.data.toList)) (⟨#[32]⟩ : ByteArray).data.toList).toArray⟩ : ByteArray) = s at *
    generalize wx.alloc (.cells #[.string (⟨#[100, 101, 110, 121]⟩ : ByteArray), .string r.who, .string mt, .string ot, .string (r.name ++ (⟨#[42]⟩ : ByteArray))] 9 (0, 0)) = wy at *
    have z1 : ¬ 9223372036854775807 < s.size + 1 := by have := LS.out; rw [← FIN.out, ByteArray.size_append, s10] at this; omega
    refine aK0 _ _ ?_
    clear aK0
    go_wp2_with (go_at_call 33; refine CX.out.mono ?_; rintro e w9 ⟨rfl, b9⟩; have B9 := Seg.hid b9; clear b9)
    go_ret
    exact ⟨by rw [← FIN.out]; rfl, chain BX.out B9.out⟩
  clear aK0
  refine wp_region_held_drew (S := (fun w' => w'.cell? ⟨w.heap.size, 1, none⟩ = some (.string r.who) ∧ w'.cell? ⟨w.heap.size, 2, none⟩ = some (.int .i64 r.may) ∧ w'.cell? ⟨w.heap.size, 3, none⟩ = some (.int .i64 r.on))) (by kernel_rfl) (ST.out _ (Below.refl _ _).drew) (fun hHeld => ?_)
  refine tke 0 (some 14) (.string (⟨#[100, 101, 110, 121]⟩ : ByteArray)) rfl rfl ?_
  try simp only [Act.put, List.setIfInBounds_toArray, List.set_cons_zero, List.set_cons_succ]
  refine tke 1 (some 15) (.pointer (some ⟨w.heap.size, 1, none⟩)) rfl rfl ?_
  try simp only [Act.put, List.setIfInBounds_toArray, List.set_cons_zero, List.set_cons_succ]
  refine tke 2 (some 16) (.string r.who) rfl rfl ?_
  try simp only [Act.put, List.setIfInBounds_toArray, List.set_cons_zero, List.set_cons_succ]
  refine tke 4 (some 18) (.pointer (some ⟨w.heap.size, 2, none⟩)) rfl rfl ?_
  try simp only [Act.put, List.setIfInBounds_toArray, List.set_cons_zero, List.set_cons_succ]
  refine tke 5 (some 19) (.int .i64 r.may) rfl rfl ?_
  try simp only [Act.put, List.setIfInBounds_toArray, List.set_cons_zero, List.set_cons_succ]
  refine tke 9 (some 23) (.pointer (some ⟨w.heap.size, 3, none⟩)) rfl rfl ?_
  try simp only [Act.put, List.setIfInBounds_toArray, List.set_cons_zero, List.set_cons_succ]
  refine tke 10 (some 24) (.int .i64 r.on) rfl rfl ?_
  try simp only [Act.put, List.setIfInBounds_toArray, List.set_cons_zero, List.set_cons_succ]
  refine tke 13 (some 27) (.string (r.name ++ (⟨#[42]⟩ : ByteArray))) rfl rfl ?_
  try simp only [Act.put, List.setIfInBounds_toArray, List.set_cons_zero, List.set_cons_succ]
  refine wpAnyH_ready (rs := [3]) (by kernel_rfl) (by simp) ?_
  refine AllReadyH.cons (o := { dst := some 17, op := Op.call { callee := Callee.value (Operand.func 36), args := #[], argTypes := #[] }, type := 42, pos := "l11_access.go:100", after := #[], guard := none }) rfl (fun K hK => ?_) AllReadyH.nil
  (go_simp; go_at_call 36; refine (CM.out _).mono ?_; rintro e w8 ⟨rfl, x8, l8, b8⟩; have BM : Hid (Below w1.heap.size w1 w8) := ⟨b8.os, b8.tape, b8.output, b8.size, b8.block⟩; have X8 : w8.cell? ⟨w1.heap.size, r.may.toNat, none⟩ = some (.string mt) := x8; have L8 : w1.heap.size < w8.heap.size := l8; clear b8 x8 l8; try (go_wp2_with fail))
  refine hK.out _ _ (ST.out _ BM.out) (fun hHeld => ?_)
  clear hK K
  try simp only [Act.put, List.setIfInBounds_toArray, List.set_cons_zero, List.set_cons_succ]
  refine tke 6 (some 20) (.pointer (some ⟨w1.heap.size, r.may.toNat, none⟩)) rfl rfl ?_
  try simp only [Act.put, List.setIfInBounds_toArray, List.set_cons_zero, List.set_cons_succ]
  refine wpAnyH_ready (rs := [7, 8]) (by kernel_rfl) (by simp) ?_
  refine AllReadyH.cons (o := { dst := some 21, op := Op.load 9 (Operand.tmp 20), type := 9, pos := "l11_access.go:100", after := #[{ on := 6, ground := Ground.data }], guard := none }) rfl (fun K hK => ?_) (AllReadyH.cons (o := { dst := some 22, op := Op.call { callee := Callee.value (Operand.func 37), args := #[], argTypes := #[] }, type := 42, pos := "l11_access.go:100", after := #[{ on := 3, ground := Ground.chain }], guard := none }) rfl (fun K hK => ?_) AllReadyH.nil)
  · (go_simp; try (go_wp2_with fail))
    refine hK.out _ _ (ST.out _ BM.out) (fun hHeld => ?_)
    clear hK K
    try simp only [Act.put, List.setIfInBounds_toArray, List.set_cons_zero, List.set_cons_succ]
    refine wpAnyH_ready (rs := [8]) (by kernel_rfl) (by simp) ?_
    refine AllReadyH.cons (o := { dst := some 22, op := Op.call { callee := Callee.value (Operand.func 37), args := #[], argTypes := #[] }, type := 42, pos := "l11_access.go:100", after := #[{ on := 3, ground := Ground.chain }], guard := none }) rfl (fun K hK => ?_) AllReadyH.nil
    (go_simp; go_at_call 37; refine (CO.out _).mono ?_; rintro e w9 ⟨rfl, x9, l9, b9⟩; have bo : Below w8.heap.size w8 w9 := ⟨b9.os, b9.tape, b9.output, b9.size, b9.block⟩; have BO : Hid (Below w1.heap.size w1 w9) := chain BM.out bo; have X9 : w9.cell? ⟨w8.heap.size, r.on.toNat, none⟩ = some (.string ot) := x9; have X7 : w9.cell? ⟨w1.heap.size, r.may.toNat, none⟩ = some (.string mt) := (bo.cell (p := ⟨w1.heap.size, r.may.toNat, none⟩) L8).trans X8; clear b9 x9 l9 bo; try (go_wp2_with fail))
    refine hK.out _ _ (ST.out _ BO.out) (fun hHeld => ?_)
    clear hK K
    try simp only [Act.put, List.setIfInBounds_toArray, List.set_cons_zero, List.set_cons_succ]
    refine tke 11 (some 25) (.pointer (some ⟨w8.heap.size, r.on.toNat, none⟩)) rfl rfl ?_
    try simp only [Act.put, List.setIfInBounds_toArray, List.set_cons_zero, List.set_cons_succ]
    refine wpAnyH_ready (rs := [12]) (by kernel_rfl) (by simp) ?_
    refine AllReadyH.cons (o := { dst := some 26, op := Op.load 9 (Operand.tmp 25), type := 9, pos := "l11_access.go:100", after := #[{ on := 11, ground := Ground.data }], guard := none }) rfl (fun K hK => ?_) AllReadyH.nil
    (go_simp; try (go_wp2_with fail))
    refine hK.out _ _ (ST.out _ BO.out) (fun hHeld => ?_)
    clear hK K
    try simp only [Act.put, List.setIfInBounds_toArray, List.set_cons_zero, List.set_cons_succ]
    refine wpAnyH_ready (rs := [14]) (by kernel_rfl) (by simp) ?_
    refine AllReadyH.cons (o := { dst := some 28, op := Op.buildSlice 42 5 #[(0, Operand.tmp 14), (1, Operand.tmp 16), (2, Operand.tmp 21), (3, Operand.tmp 26), (4, Operand.tmp 27)], type := 42, pos := "l11_access.go:100", after := #[{ on := 0, ground := Ground.data }, { on := 2, ground := Ground.data }, { on := 7, ground := Ground.data }, { on := 12, ground := Ground.data }, { on := 13, ground := Ground.data }], guard := none }) rfl (fun K hK => ?_) AllReadyH.nil
    (go_simp; try (go_wp2_with fail))
    refine hK.out _ _ (ST.out _ (chain BO.out (below1 w9 _))) (fun hHeld => ?_)
    clear hK K
    try simp only [Act.put, List.setIfInBounds_toArray, List.set_cons_zero, List.set_cons_succ]
    refine tke 15 (some 5) (.slice (some ⟨w9.heap.size, 0, none⟩) 5 5) rfl rfl ?_
    try simp only [Act.put, List.setIfInBounds_toArray, List.set_cons_zero, List.set_cons_succ]
    refine wpAnyH_done (by kernel_rfl) ?_ _
    exact J _ _ _ _ _ _ _ _ _ _ _ _ _ _ _ _ _ _ _ _ _ _ _ w9 BO.out
  · (go_simp; go_at_call 37; refine (CO.out _).mono ?_; rintro e w9 ⟨rfl, x9, l9, b9⟩; have bo : Below w8.heap.size w8 w9 := ⟨b9.os, b9.tape, b9.output, b9.size, b9.block⟩; have BO : Hid (Below w1.heap.size w1 w9) := chain BM.out bo; have X9 : w9.cell? ⟨w8.heap.size, r.on.toNat, none⟩ = some (.string ot) := x9; have X7 : w9.cell? ⟨w1.heap.size, r.may.toNat, none⟩ = some (.string mt) := (bo.cell (p := ⟨w1.heap.size, r.may.toNat, none⟩) L8).trans X8; clear b9 x9 l9 bo; try (go_wp2_with fail))
    refine hK.out _ _ (ST.out _ BO.out) (fun hHeld => ?_)
    clear hK K
    try simp only [Act.put, List.setIfInBounds_toArray, List.set_cons_zero, List.set_cons_succ]
    refine tke 11 (some 25) (.pointer (some ⟨w8.heap.size, r.on.toNat, none⟩)) rfl rfl ?_
    try simp only [Act.put, List.setIfInBounds_toArray, List.set_cons_zero, List.set_cons_succ]
    refine wpAnyH_ready (rs := [7, 12]) (by kernel_rfl) (by simp) ?_
    refine AllReadyH.cons (o := { dst := some 21, op := Op.load 9 (Operand.tmp 20), type := 9, pos := "l11_access.go:100", after := #[{ on := 6, ground := Ground.data }], guard := none }) rfl (fun K hK => ?_) (AllReadyH.cons (o := { dst := some 26, op := Op.load 9 (Operand.tmp 25), type := 9, pos := "l11_access.go:100", after := #[{ on := 11, ground := Ground.data }], guard := none }) rfl (fun K hK => ?_) AllReadyH.nil)
    · (go_simp; try (go_wp2_with fail))
      refine hK.out _ _ (ST.out _ BO.out) (fun hHeld => ?_)
      clear hK K
      try simp only [Act.put, List.setIfInBounds_toArray, List.set_cons_zero, List.set_cons_succ]
      refine wpAnyH_ready (rs := [12]) (by kernel_rfl) (by simp) ?_
      refine AllReadyH.cons (o := { dst := some 26, op := Op.load 9 (Operand.tmp 25), type := 9, pos := "l11_access.go:100", after := #[{ on := 11, ground := Ground.data }], guard := none }) rfl (fun K hK => ?_) AllReadyH.nil
      (go_simp; try (go_wp2_with fail))
      refine hK.out _ _ (ST.out _ BO.out) (fun hHeld => ?_)
      clear hK K
      try simp only [Act.put, List.setIfInBounds_toArray, List.set_cons_zero, List.set_cons_succ]
      refine wpAnyH_ready (rs := [14]) (by kernel_rfl) (by simp) ?_
      refine AllReadyH.cons (o := { dst := some 28, op := Op.buildSlice 42 5 #[(0, Operand.tmp 14), (1, Operand.tmp 16), (2, Operand.tmp 21), (3, Operand.tmp 26), (4, Operand.tmp 27)], type := 42, pos := "l11_access.go:100", after := #[{ on := 0, ground := Ground.data }, { on := 2, ground := Ground.data }, { on := 7, ground := Ground.data }, { on := 12, ground := Ground.data }, { on := 13, ground := Ground.data }], guard := none }) rfl (fun K hK => ?_) AllReadyH.nil
      (go_simp; try (go_wp2_with fail))
      refine hK.out _ _ (ST.out _ (chain BO.out (below1 w9 _))) (fun hHeld => ?_)
      clear hK K
      try simp only [Act.put, List.setIfInBounds_toArray, List.set_cons_zero, List.set_cons_succ]
      refine tke 15 (some 5) (.slice (some ⟨w9.heap.size, 0, none⟩) 5 5) rfl rfl ?_
      try simp only [Act.put, List.setIfInBounds_toArray, List.set_cons_zero, List.set_cons_succ]
      refine wpAnyH_done (by kernel_rfl) ?_ _
      exact J _ _ _ _ _ _ _ _ _ _ _ _ _ _ _ _ _ _ _ _ _ _ _ w9 BO.out
    · (go_simp; try (go_wp2_with fail))
      refine hK.out _ _ (ST.out _ BO.out) (fun hHeld => ?_)
      clear hK K
      try simp only [Act.put, List.setIfInBounds_toArray, List.set_cons_zero, List.set_cons_succ]
      refine wpAnyH_ready (rs := [7]) (by kernel_rfl) (by simp) ?_
      refine AllReadyH.cons (o := { dst := some 21, op := Op.load 9 (Operand.tmp 20), type := 9, pos := "l11_access.go:100", after := #[{ on := 6, ground := Ground.data }], guard := none }) rfl (fun K hK => ?_) AllReadyH.nil
      (go_simp; try (go_wp2_with fail))
      refine hK.out _ _ (ST.out _ BO.out) (fun hHeld => ?_)
      clear hK K
      try simp only [Act.put, List.setIfInBounds_toArray, List.set_cons_zero, List.set_cons_succ]
      refine wpAnyH_ready (rs := [14]) (by kernel_rfl) (by simp) ?_
      refine AllReadyH.cons (o := { dst := some 28, op := Op.buildSlice 42 5 #[(0, Operand.tmp 14), (1, Operand.tmp 16), (2, Operand.tmp 21), (3, Operand.tmp 26), (4, Operand.tmp 27)], type := 42, pos := "l11_access.go:100", after := #[{ on := 0, ground := Ground.data }, { on := 2, ground := Ground.data }, { on := 7, ground := Ground.data }, { on := 12, ground := Ground.data }, { on := 13, ground := Ground.data }], guard := none }) rfl (fun K hK => ?_) AllReadyH.nil
      (go_simp; try (go_wp2_with fail))
      refine hK.out _ _ (ST.out _ (chain BO.out (below1 w9 _))) (fun hHeld => ?_)
      clear hK K
      try simp only [Act.put, List.setIfInBounds_toArray, List.set_cons_zero, List.set_cons_succ]
      refine tke 15 (some 5) (.slice (some ⟨w9.heap.size, 0, none⟩) 5 5) rfl rfl ?_
      try simp only [Act.put, List.setIfInBounds_toArray, List.set_cons_zero, List.set_cons_succ]
      refine wpAnyH_done (by kernel_rfl) ?_ _
      exact J _ _ _ _ _ _ _ _ _ _ _ _ _ _ _ _ _ _ _ _ _ _ _ w9 BO.out
theorem line_any (r : Rul) (w : World) (ok : okR r = true) :
    Calls Try.prog 32 #[.agg (rrow r)] w fun e w' => e = .returned (.string (line r)) ∧ Below w.heap.size w w' := by
  cases hd : r.deny <;> cases hb : r.begins
  · exact line_ff r w ok hd hb
  · exact line_ft r w ok hd hb
  · exact line_tf r w ok hd hb
  · exact line_tt r w ok hd hb
end Go.Proofs.Ytoaobifhiddpkaa.RuI
