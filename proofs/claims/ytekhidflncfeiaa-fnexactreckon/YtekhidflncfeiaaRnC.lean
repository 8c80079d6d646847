/- Function values: those on two numbers, those that tell what an expression comes to in a row; the literals that hold others. -/
import Derived.Test.YtekhidflncfeiaaRnI
import Derived.Test.YtekhidflncfeiaaYcI
namespace Go.Proofs.Ytekhidflncfeiaa.RnC
set_option maxRecDepth 8000
open Go.RowKit
open Ls Lp QyP QsP QtP QuP QdP QrP YcP RnP RnI
open Recs (hsz below1 below2 chain chainD)
set_option linter.unusedVariables false
/-- A function value that does an Op on two numbers. -/
def Bi (v : Value) (op : Int) : Prop := ∃ n : Nat, v = .func (.func n) #[] #[] ∧ Enters Try.prog n ∧ ∀ (a b : Int) (w : World), inM a = true → inM b = true → Calls Try.prog n #[.int .i64 a, .int .i64 b] w fun e w' => e = .returned (.int .i64 (doS op a b)) ∧ w' = w
theorem bi_plus : Bi (.func (.func 134) #[] #[]) 3 := ⟨_, rfl, enters_of Try.func134 (by kernel_rfl) rfl, fun a b w ha hb => plus_any a b w (nm ha) (nm hb)⟩
theorem bi_minus : Bi (.func (.func 135) #[] #[]) 4 := ⟨_, rfl, enters_of Try.func135 (by kernel_rfl) rfl, fun a b w ha hb => minus_any a b w (nm ha) (nm hb)⟩
theorem bi_times : Bi (.func (.func 136) #[] #[]) 5 := ⟨_, rfl, enters_of Try.func136 (by kernel_rfl) rfl, fun a b w ha hb => times_any a b w (nm ha) (nm hb)⟩
theorem bi_quo : Bi (.func (.func 137) #[] #[]) 6 := ⟨_, rfl, enters_of Try.func137 (by kernel_rfl) rfl, fun a b w ha hb => quo_any a b w (nm ha) (nm hb)⟩
theorem bi_rem : Bi (.func (.func 138) #[] #[]) 7 := ⟨_, rfl, enters_of Try.func138 (by kernel_rfl) rfl, fun a b w ha hb => rem_any a b w (nm ha) (nm hb)⟩
theorem bi_less : Bi (.func (.func 139) #[] #[]) 8 := ⟨_, rfl, enters_of Try.func139 (by kernel_rfl) rfl, fun a b w ha hb => less_any a b w⟩
theorem bi_same : Bi (.func (.func 117) #[] #[]) 9 := ⟨_, rfl, enters_of Try.func117 (by kernel_rfl) rfl, fun a b w ha hb => same_any a b w⟩
theorem bi_both : Bi (.func (.func 140) #[] #[]) 10 := ⟨_, rfl, enters_of Try.func140 (by kernel_rfl) rfl, fun a b w ha hb => both_any a b w⟩
theorem bi_either : Bi (.func (.func 141) #[] #[]) 11 := ⟨_, rfl, enters_of Try.func141 (by kernel_rfl) rfl, fun a b w ha hb => either_any a b w⟩
set_option maxHeartbeats 12800000 in
theorem op_any (op : Int) (w : World) (h : 3 ≤ op ∧ op ≤ 11) : Calls Try.prog 118 #[.int .i64 op] w fun e w' => ∃ v, e = .returned v ∧ Bi v op ∧ Below w.heap.size w w' := by
  obtain ⟨h1, h2⟩ := h
  have ho : op = 3 ∨ op = 4 ∨ op = 5 ∨ op = 6 ∨ op = 7 ∨ op = 8 ∨ op = 9 ∨ op = 10 ∨ op = 11 := by omega
  clear h1 h2
  rcases ho with rfl | rfl | rfl | rfl | rfl | rfl | rfl | rfl | rfl
  · go_enter Try.func118, Try.ntmps118
    go_wp2
    go_ret
    exact ⟨_, rfl, bi_plus, below1 _ _⟩
  · go_enter Try.func118, Try.ntmps118
    go_wp2
    go_ret
    exact ⟨_, rfl, bi_minus, below1 _ _⟩
  · go_enter Try.func118, Try.ntmps118
    go_wp2
    go_ret
    exact ⟨_, rfl, bi_times, below1 _ _⟩
  · go_enter Try.func118, Try.ntmps118
    go_wp2
    go_ret
    exact ⟨_, rfl, bi_quo, below1 _ _⟩
  · go_enter Try.func118, Try.ntmps118
    go_wp2
    go_ret
    exact ⟨_, rfl, bi_rem, below1 _ _⟩
  · go_enter Try.func118, Try.ntmps118
    go_wp2
    go_ret
    exact ⟨_, rfl, bi_less, below1 _ _⟩
  · go_enter Try.func118, Try.ntmps118
    go_wp2
    go_ret
    exact ⟨_, rfl, bi_same, below1 _ _⟩
  · go_enter Try.func118, Try.ntmps118
    go_wp2
    go_ret
    exact ⟨_, rfl, bi_both, below1 _ _⟩
  · go_enter Try.func118, Try.ntmps118
    go_wp2
    go_ret
    exact ⟨_, rfl, bi_either, below1 _ _⟩
/-- All blocks but one are as they were. -/
structure Kp (r : Nat) (w wx : World) : Prop where
  size : w.heap.size ≤ wx.heap.size
  block : ∀ g, g < w.heap.size → g ≠ r → wx.heap[g]? = w.heap[g]?
theorem Kp.refl (r : Nat) (w : World) : Kp r w w := ⟨Nat.le_refl _, fun _ _ _ => rfl⟩
theorem Kp.trans {r : Nat} {a b c : World} (h : Kp r a b) (h' : Kp r b c) : Kp r a c := ⟨Nat.le_trans h.size h'.size, fun g hg hr => (h'.block g (Nat.lt_of_lt_of_le hg h.size) hr).trans (h.block g hg hr)⟩
theorem Kp.of_below {r : Nat} {a b : World} (h : Below a.heap.size a b) : Kp r a b := ⟨h.size, fun g hg _ => h.block g hg⟩
theorem Kp.cell {r : Nat} {a b : World} (h : Kp r a b) {g j : Nat} {v : Value} (hg : g < a.heap.size) (hr : g ≠ r) (hc : a.cell? ⟨g, j, none⟩ = some v) : b.cell? ⟨g, j, none⟩ = some v := by
  rw [World.cell?_of_block (w := a) (a := ⟨g, j, none⟩) (h.block g hg hr)]
  exact hc
/-- A function value that tells, in every later world, what an expression comes to in a row of m numbers. -/
def Ev (r m : Nat) (w : World) (v : Value) (f : List Int → Int) : Prop := ∃ (n : Nat) (caps : Array Value), v = .func (.func n) #[] caps ∧ Enters Try.prog n ∧ ∀ wx, Kp r w wx → ∀ (A : Option Addr) (c : Nat) (row : List Int) (S : Nat → Prop), IntsAt wx S (.slice A row.length c) row → (∀ g, S g → g < wx.heap.size) → row.length = m → row.all inM = true →
  Calls Try.prog n (#[.slice A row.length c] ++ caps) wx fun e w' => e = .returned (.int .i64 (f row)) ∧ ∃ q, w' = wx.drewN q
theorem Ev.later {r m : Nat} {w w' : World} {v : Value} {f : List Int → Int} (h : Ev r m w v f) (hk : Kp r w w') : Ev r m w' v f := by
  obtain ⟨n, caps, h1, h2, h3⟩ := h
  exact ⟨n, caps, h1, h2, fun wx hx => h3 wx (hk.trans hx)⟩
theorem c1_any (x : Value) (b : Nat) (num : Int) (w : World) (hb : b < w.heap.size) (hc : w.cell? ⟨b, 1, none⟩ = some (.int .i64 num)) :
    Calls Try.prog 114 #[x, .pointer (some ⟨b, 0, none⟩)] w fun e w' => e = .returned (.int .i64 num) ∧ w' = w := by
  go_enter Try.func114, Try.ntmps114
  go_wp2
  go_ret
  exact ⟨rfl, rfl⟩
theorem c2_any (A : Option Addr) (c b k : Nat) (row : List Int) (w : World) (S : Nat → Prop) (hr : IntsAt w S (.slice A row.length c) row) (hS : ∀ g, S g → g < w.heap.size) (hk : k < row.length) (hb : b < w.heap.size) (hc : w.cell? ⟨b, 0, none⟩ = some (.int .i64 (k : Int))) :
    Calls Try.prog 115 #[.slice A row.length c, .pointer (some ⟨b, 0, none⟩)] w fun e w' => e = .returned (.int .i64 (row.getD k 0)) ∧ w' = w := by
  obtain ⟨A', c', g, o, F, e, OP, hn⟩ := opn hr hS
  cases e
  obtain ⟨ea, hc2, hgw⟩ := OP.addr.resolve_left (by omega)
  subst ea
  have d0 : w.cell? ⟨g, o + k, none⟩ = some (.int .i64 (row.getD k 0)) := RrI.ints_cell OP hk
  have h0 : (0 : Int) ≤ (k : Int) := by omega
  have h1 : (k : Int) < (row.length : Int) := by omega
  clear OP hr
  generalize row.getD k 0 = x at *
  go_enter Try.func115, Try.ntmps115
  go_wp2
  go_ret
  exact ⟨rfl, rfl⟩
theorem c3_any (A : Option Addr) (c b r m : Nat) (row : List Int) (v : Value) (f : List Int → Int) (w : World) (S : Nat → Prop) (hr : IntsAt w S (.slice A row.length c) row) (hS : ∀ g, S g → g < w.heap.size) (hm : row.length = m) (hi : row.all inM = true) (hb : b < w.heap.size) (hc : w.cell? ⟨b, 0, none⟩ = some v) (hv : Ev r m w v f) :
    Calls Try.prog 116 #[.slice A row.length c, .pointer (some ⟨b, 0, none⟩)] w fun e w' => e = .returned (.int .i64 (b01 (decide (f row = 0)))) ∧ ∃ q, w' = w.drewN q := by
  obtain ⟨n, caps, rfl, en, hev⟩ := hv
  have CV := Seg.hid (hev w (Kp.refl _ _) A c row S hr hS hm hi)
  have CS := Seg.hid same_any
  have en' : ∀ (args : Array Value) (w : World), (callFunc n args).run Try.prog w = .ok (.enter n args) w := en
  clear hev hr hm hi
  go_enter Try.func116, Try.ntmps116
  go_wp2_with (first | (go_at_fn n; refine CV.out.mono ?_; rintro e w5 ⟨rfl, q, rfl⟩) | (go_at_call 117; refine (CS.out _ _ _).mono ?_; rintro e w5 ⟨rfl, rfl⟩))
  go_ret
  exact ⟨rfl, _, rfl⟩
theorem c4_any (A : Option Addr) (c b1 b2 b3 r m : Nat) (row : List Int) (vo va vb : Value) (op : Int) (f g : List Int → Int) (w : World) (S : Nat → Prop) (hr : IntsAt w S (.slice A row.length c) row) (hS : ∀ g, S g → g < w.heap.size) (hm : row.length = m) (hi : row.all inM = true) (hf : inM (f row) = true) (hg : inM (g row) = true)
    (h1 : b1 < w.heap.size) (h2 : b2 < w.heap.size) (h3 : b3 < w.heap.size) (c1 : w.cell? ⟨b1, 0, none⟩ = some vo) (c2 : w.cell? ⟨b2, 0, none⟩ = some va) (c3 : w.cell? ⟨b3, 0, none⟩ = some vb) (ho : Bi vo op) (ha : Ev r m w va f) (hb : Ev r m w vb g) :
    Calls Try.prog 119 #[.slice A row.length c, .pointer (some ⟨b1, 0, none⟩), .pointer (some ⟨b2, 0, none⟩), .pointer (some ⟨b3, 0, none⟩)] w fun e w' => e = .returned (.int .i64 (doS op (f row) (g row))) ∧ ∃ q, w' = w.drewN q := by
  obtain ⟨no, rfl, eo, hbi⟩ := ho
  obtain ⟨na, capsa, rfl, ea, heva⟩ := ha
  obtain ⟨nb, capsb, rfl, eb, hevb⟩ := hb
  have KD : ∀ n, Kp r w (w.drewN n) := fun n => ⟨Nat.le_refl _, fun _ _ _ => rfl⟩
  have CA : Hid (∀ n, Calls Try.prog na (#[.slice A row.length c] ++ capsa) (w.drewN n) fun e w' => e = .returned (.int .i64 (f row)) ∧ ∃ q, w' = (w.drewN n).drewN q) := fun n => heva _ (KD n) A c row S (LAt.keep keepsI hr (fun _ _ => rfl)) hS hm hi
  have CB : Hid (∀ n, Calls Try.prog nb (#[.slice A row.length c] ++ capsb) (w.drewN n) fun e w' => e = .returned (.int .i64 (g row)) ∧ ∃ q, w' = (w.drewN n).drewN q) := fun n => hevb _ (KD n) A c row S (LAt.keep keepsI hr (fun _ _ => rfl)) hS hm hi
  have CO : Hid (∀ w, Calls Try.prog no #[.int .i64 (f row), .int .i64 (g row)] w fun e w' => e = .returned (.int .i64 (doS op (f row) (g row))) ∧ w' = w) := fun w => hbi _ _ w hf hg
  have eo' : ∀ (args : Array Value) (w : World), (callFunc no args).run Try.prog w = .ok (.enter no args) w := eo
  have ea' : ∀ (args : Array Value) (w : World), (callFunc na args).run Try.prog w = .ok (.enter na args) w := ea
  have eb' : ∀ (args : Array Value) (w : World), (callFunc nb args).run Try.prog w = .ok (.enter nb args) w := eb
  clear hbi heva hevb hr hm hi KD
  go_enter Try.func119, Try.ntmps119
  go_upto_region 1 with fail
  go_quiet (first | (go_at_fn na; refine Calls.quiet_of (CA.out _)) | (go_at_fn nb; refine Calls.quiet_of (CB.out _)) | (go_at_fn no; (with_reducible refine Calls.quiet_of_same (CO.out _))))
  go_wp2
  go_ret
  exact ⟨rfl, _, rfl⟩
end Go.Proofs.Ytekhidflncfeiaa.RnC
