/- A written batch of which one byte of the body or of the Check is turned: on plain lists; The cursor over the bytes of a draw: what each of its readers leaves. -/
import Derived.RegionTactic
import Derived.Maps.AppendAt
import Derived.Outline
import Derived.Test.YtdnbcfochlfopaaRows
import Derived.Test.YtdnbcfochlfopaaJH24
import Derived.Test.YtdnbcfochlfopaaJH33
import Derived.Test.YtdnbcfochlfopaaJH02
namespace Go.Proofs.Ytdnbcfochlfopaa.Hurt
set_option maxRecDepth 8000
open Nums (put scan unf)
open WrP RdP Recs
open Rd (preE verR headR bodyE)
set_option linter.unusedVariables false
theorem numsB_app : ∀ a b : List Int, numsB (a ++ b) = numsB a ++ numsB b
  | [], b => rfl
  | x :: t, b => by
    show put x ++ numsB (t ++ b) = (put x ++ numsB t) ++ numsB b
    rw [numsB_app t b, List.append_assoc]
/-- Two bytes, some numbers, and more. -/
def wire (ns rest : List Int) : List Int := [77, 2] ++ numsB ns ++ rest
def at_ (ns : List Int) (i : Nat) : Nat := 2 + (numsB (ns.take i)).length
theorem at_0 (ns : List Int) : at_ ns 0 = 2 := rfl
theorem wire_drop (ns rest : List Int) (i : Nat) : (wire ns rest).drop (at_ ns i) = numsB (ns.drop i) ++ rest := by
  have e : wire ns rest = ([77, 2] ++ numsB (ns.take i)) ++ (numsB (ns.drop i) ++ rest) := by
    rw [wire]
    conv => lhs; rw [← List.take_append_drop i ns, numsB_app]
    simp only [List.append_assoc]
  rw [e]
  exact List.drop_left' (by simp [at_]; omega)
theorem at_succ (ns : List Int) (i : Nat) (h : i < ns.length) : at_ ns (i + 1) = at_ ns i + (put (ns.getD i 0)).length := by
  have e : ns.take (i + 1) = ns.take i ++ [ns.getD i 0] := by
    rw [List.take_add_one]
    simp [h]
  have e2 : numsB [ns.getD i 0] = put (ns.getD i 0) := by simp [numsB]
  unfold at_
  rw [e, numsB_app, e2, List.length_append]
  omega
theorem at_end (ns rest : List Int) : at_ ns ns.length + rest.length = (wire ns rest).length := by
  unfold at_ wire
  rw [List.take_length]
  simp only [List.length_append, List.length_cons, List.length_nil]
theorem at_le (ns rest : List Int) (i : Nat) : at_ ns i ≤ (wire ns rest).length := by
  unfold at_ wire
  have := congrArg List.length (numsB_app (ns.take i) (ns.drop i))
  rw [List.take_append_drop, List.length_append] at this
  simp only [List.length_append, List.length_cons, List.length_nil]
  omega
theorem num_at (ns rest : List Int) (hb : ∀ x ∈ ns, -1000000000000 ≤ x ∧ x ≤ 1000000000000) (i : Nat) (h : i < ns.length) : num (wire ns rest) (at_ ns i) = some (ns.getD i 0, at_ ns (i + 1)) := by
  have hx := hb (ns.getD i 0) (by simp [h])
  have e := wire_drop ns rest i
  rw [numsB_at h, List.append_assoc] at e
  rw [num_put e (by omega), at_succ ns i h]
theorem scan_at (ns rest : List Int) (hb : ∀ x ∈ ns, -1000000000000 ≤ x ∧ x ≤ 1000000000000) (i : Nat) (h : i < ns.length) : ∃ u, scan (wire ns rest) (at_ ns i) 0 0 = some (u, at_ ns (i + 1)) := by
  have e := num_at ns rest hb i h
  unfold num at e
  cases hs : scan (wire ns rest) (at_ ns i) 0 0 with
  | none => rw [hs] at e; simp at e
  | some q =>
    rw [hs] at e
    simp only [Option.map_some, Option.some.injEq, Prod.mk.injEq] at e
    exact ⟨q.1, by rw [← e.2]⟩
theorem pre_err (a0 a1 a2 a3 a4 a5 : Int) (k : Nat) (rest : List Int) (hb : ∀ x ∈ [a0, a1, a2, a3, a4, a5, (k : Int)], -1000000000000 ≤ x ∧ x ≤ 1000000000000) (hr : rest.length = k + 4)
    (hne : rest.drop k ≠ four (Crc.check (wire [a0, a1, a2, a3, a4, a5, (k : Int)] (rest.take k)))) :
    preE (wire [a0, a1, a2, a3, a4, a5, (k : Int)] rest) 0 = .error 5 := by
  obtain ⟨ns, hns⟩ : ∃ ns, ns = [a0, a1, a2, a3, a4, a5, (k : Int)] := ⟨_, rfl⟩
  have hl : ns.length = 7 := by rw [hns]; rfl
  have n0 := num_at ns rest (by rw [hns]; exact hb) 0 (by omega)
  have n1 := num_at ns rest (by rw [hns]; exact hb) 1 (by omega)
  have n2 := num_at ns rest (by rw [hns]; exact hb) 2 (by omega)
  have n3 := num_at ns rest (by rw [hns]; exact hb) 3 (by omega)
  have n4 := num_at ns rest (by rw [hns]; exact hb) 4 (by omega)
  have n5 := num_at ns rest (by rw [hns]; exact hb) 5 (by omega)
  have n6 := num_at ns rest (by rw [hns]; exact hb) 6 (by omega)
  have g6 : ns.getD 6 0 = (k : Int) := by rw [hns]; rfl
  have he := at_end ns rest
  rw [hl] at he
  have d7 := wire_drop ns rest 7
  have d7' : (wire ns rest).drop (at_ ns 7) = rest := by
    rw [d7, List.drop_eq_nil_of_le (by omega)]
    rfl
  have t1 : tk (wire ns rest) (at_ ns 7) (k : Int) = some (rest.take k, at_ ns 7 + k) := by
    have h1 : (rest.take k).length = k := by rw [List.length_take]; omega
    have := tk_app (l := wire ns rest) (a := rest.take k) (rest := rest.drop k) (p := at_ ns 7) (by rw [d7', List.take_append_drop]) (by omega)
    rw [h1] at this
    exact this
  have t2 : tk (wire ns rest) (at_ ns 7 + k) 4 = some (rest.drop k, at_ ns 7 + k + 4) := by
    have h1 : (rest.drop k).length = 4 := by rw [List.length_drop]; omega
    have := tk_app (l := wire ns rest) (a := rest.drop k) (rest := []) (p := at_ ns 7 + k) (by rw [← List.drop_drop, d7', List.append_nil]) (by omega)
    rw [h1] at this
    exact this
  have cut : ((wire ns rest).drop 0).take (at_ ns 7 + k - 0) = wire ns (rest.take k) := by
    rw [List.drop_zero, Nat.sub_zero]
    have e : wire ns rest = ([77, 2] ++ numsB ns ++ rest.take k) ++ rest.drop k := by
      rw [wire, List.append_assoc _ (rest.take k), List.take_append_drop]
    rw [e]
    refine List.take_left' ?_
    have h1 : (rest.take k).length = k := by rw [List.length_take]; omega
    have h7 : ns.take 7 = ns := by rw [← hl, List.take_length]
    simp only [List.length_append, h1, at_, h7, List.length_cons, List.length_nil]
  have v0 : verR (wire ns rest) 0 = .ok (2, 2) := by
    have hl2 : ¬ ¬ ((0 : Int) ≤ 0 ∧ (0 : Int) < ((wire ns rest).length : Int)) := by simp [wire]; omega
    unfold verR
    rw [if_neg hl2]
    simp [wire]
  rw [← hns] at hne ⊢
  have hd : headR 2 (wire ns rest) 2 = some (⟨ns.getD 0 0, ns.getD 1 0, ns.getD 2 0, ns.getD 3 0, ns.getD 4 0, ns.getD 5 0, []⟩, at_ ns 6) := by
    rw [at_0] at n0
    unfold headR
    simp only [n0, n1, n2, n3, n4, n5, if_true]
  have bd : bodyE (wire ns rest) 0 (at_ ns 6) = .error 5 := by
    unfold bodyE
    simp only [n6, g6, t1, t2, cut, if_neg hne]
    rw [if_neg (by omega)]
  unfold preE
  simp only [v0, hd]
  show (match bodyE (wire ns rest) 0 (at_ ns 6) with | .error f => _ | .ok (xs, q) => _) = _
  rw [bd]
theorem wire_set (ns rest : List Int) (j : Nat) (y : Int) : (wire ns rest).set (at_ ns ns.length + j) y = wire ns (rest.set j y) := by
  unfold wire at_
  rw [List.take_length, List.set_append_right _ _ (by simp only [List.length_append, List.length_cons, List.length_nil]; omega)]
  congr 2
  simp only [List.length_append, List.length_cons, List.length_nil]
  omega
theorem four_inj {a b : Int} (ha : 0 ≤ a ∧ a < 4294967296) (hb : 0 ≤ b ∧ b < 4294967296) (h : four a = four b) : a = b := by
  simp only [four, List.cons.injEq, and_true] at h
  omega
theorem check_bd (l : List Int) (h : ∀ x ∈ l, 0 ≤ x ∧ x < 256) : 0 ≤ Crc.check l ∧ Crc.check l < 4294967296 := by
  unfold Crc.check
  have h1 : Crc.crc l < 4294967296 := Crc.foldl_lt l _ (by decide) (fun x hx => (h x hx).2)
  have h2 := Crc.xor_lt h1 (show 4294967295 < 4294967296 by decide)
  omega
theorem set_byte {l : List Int} (h : ∀ x ∈ l, 0 ≤ x ∧ x < 256) {j : Nat} {y : Int} (hy : 0 ≤ y ∧ y < 256) : ∀ x ∈ l.set j y, 0 ≤ x ∧ x < 256 := fun x hx => by
  rcases List.mem_or_eq_of_mem_set hx with h1 | rfl
  · exact h x h1
  · exact hy
/-- The numbers of a batch's head. -/
def hn (t : Bat) : List Int := headN 2 t (bodyS t 2).length
theorem hn_len (t : Bat) : (hn t).length = 7 := rfl
theorem hn_drop (t : Bat) : (hn t).drop 7 = [] := rfl
theorem by_wire (t : Bat) (l : List Int) (h : By l) : By (wire (hn t) l) := ((show By [77, 2] from fun x hx => by simp at hx; omega).app (by_nums _)).app h
theorem hn_bd {t : Bat} (h : BOk.batOk t = true) : ∀ x ∈ hn t, -1000000000000 ≤ x ∧ x ≤ 1000000000000 := by
  obtain ⟨p1, p2, p3, p4, p5, p6, p7, p8⟩ := WrI.ok_parts h
  have hk := (WrI.bodyS_facts t 2 p8 p7).2.1
  intro x hx
  simp [hn, headN] at hx
  omega
def chk (t : Bat) : Int := Crc.check (wire (hn t) (bodyS t 2))
theorem wr_wire {t : Bat} (h : BOk.batOk t = true) : WrP.wr t 2 = wire (hn t) (bodyS t 2 ++ four (chk t)) := by
  rw [WrI.wr_yes h rfl]
  show wire (hn t) (bodyS t 2) ++ four _ = _
  unfold wire chk
  rw [List.append_assoc]
  rfl
theorem turned {t : Bat} (h : BOk.batOk t = true) (j : Nat) (y : Int) (hj : j < (bodyS t 2).length + 4) (hy : 0 ≤ y ∧ y < 256) (hne : (WrP.wr t 2).getD (at_ (hn t) 7 + j) 0 ≠ y) :
    preE ((WrP.wr t 2).set (at_ (hn t) 7 + j) y) 0 = .error 5 := by
  have hby : By (bodyS t 2) := WrI.by_bodyS t 2
  have hw := wire_set (hn t) (bodyS t 2 ++ four (chk t)) j y
  rw [hn_len] at hw
  have hg : (WrP.wr t 2).getD (at_ (hn t) 7 + j) 0 = (bodyS t 2 ++ four (chk t)).getD j 0 := by
    have d := wire_drop (hn t) (bodyS t 2 ++ four (chk t)) 7
    rw [← wr_wire h, hn_drop] at d
    have d2 : (WrP.wr t 2).drop (at_ (hn t) 7) = bodyS t 2 ++ four (chk t) := d
    rw [← d2]
    simp only [List.getD_eq_getElem?_getD, List.getElem?_drop]
  rw [hg] at hne
  rw [wr_wire h, hw]
  refine pre_err _ _ _ _ _ _ (bodyS t 2).length _ (hn_bd h) (by simp [four]) ?_
  show _ ≠ four (Crc.check (wire (hn t) _))
  by_cases hlt : j < (bodyS t 2).length
  · rw [List.set_append_left _ _ hlt]
    have hl : ((bodyS t 2).set j y).length = (bodyS t 2).length := List.length_set
    rw [List.drop_left' hl, List.take_left' hl]
    intro e
    have e2 := four_inj (check_bd _ (by_wire t _ hby)) (check_bd _ (by_wire t _ (set_byte hby hy))) e
    have ws := wire_set (hn t) (bodyS t 2) j y
    rw [hn_len] at ws
    rw [← ws] at e2
    have he := at_end (hn t) (bodyS t 2)
    rw [hn_len] at he
    refine CrcNe.check_ne (wire (hn t) (bodyS t 2)) (at_ (hn t) 7 + j) y (by_wire t _ hby) (by omega) hy ?_ e2
    have d := wire_drop (hn t) (bodyS t 2) 7
    rw [hn_drop] at d
    have d2 : (wire (hn t) (bodyS t 2)).drop (at_ (hn t) 7) = bodyS t 2 := d
    intro e3
    refine hne ?_
    rw [← e3, List.getD_eq_getElem?_getD, List.getD_eq_getElem?_getD, List.getElem?_append_left hlt, ← List.getElem?_drop, d2]
  · rw [List.set_append_right _ _ (by omega)]
    rw [List.drop_left, List.take_left]
    intro e
    have e' : (four (chk t)).set (j - (bodyS t 2).length) y = four (chk t) := e
    refine hne ?_
    rw [List.getD_eq_getElem?_getD, List.getElem?_append_right (by omega), ← e', List.getElem?_set_self (by simp [four]; omega)]
    rfl
theorem wr_len {t : Bat} (h : BOk.batOk t = true) : at_ (hn t) 7 + ((bodyS t 2).length + 4) = (WrP.wr t 2).length ∧ 9 ≤ at_ (hn t) 7 ∧ at_ (hn t) 7 ≤ 100 ∧ (bodyS t 2).length ≤ 80000 := by
  have he := at_end (hn t) (bodyS t 2 ++ four (chk t))
  rw [hn_len, ← wr_wire h] at he
  obtain ⟨p1, p2, p3, p4, p5, p6, p7, p8⟩ := WrI.ok_parts h
  have hk := (WrI.bodyS_facts t 2 p8 p7).2.1
  have hb := hn_bd h
  have hs : ∀ i, i < 7 → at_ (hn t) i + 1 ≤ at_ (hn t) (i + 1) ∧ at_ (hn t) (i + 1) ≤ at_ (hn t) i + 10 := fun i hi => by
    rw [at_succ (hn t) i (by rw [hn_len]; exact hi)]
    have hi2 : i < (hn t).length := by rw [hn_len]; exact hi
    have := hb ((hn t).getD i 0) (by simp [hi2])
    have := Nums.put_pos ((hn t).getD i 0)
    have := WrP.put_le ((hn t).getD i 0) (by omega)
    omega
  have a0 := at_0 (hn t)
  have a1 : at_ (hn t) 0 + 1 ≤ at_ (hn t) 1 ∧ at_ (hn t) 1 ≤ at_ (hn t) 0 + 10 := hs 0 (by omega)
  have a2 : at_ (hn t) 1 + 1 ≤ at_ (hn t) 2 ∧ at_ (hn t) 2 ≤ at_ (hn t) 1 + 10 := hs 1 (by omega)
  have a3 : at_ (hn t) 2 + 1 ≤ at_ (hn t) 3 ∧ at_ (hn t) 3 ≤ at_ (hn t) 2 + 10 := hs 2 (by omega)
  have a4 : at_ (hn t) 3 + 1 ≤ at_ (hn t) 4 ∧ at_ (hn t) 4 ≤ at_ (hn t) 3 + 10 := hs 3 (by omega)
  have a5 : at_ (hn t) 4 + 1 ≤ at_ (hn t) 5 ∧ at_ (hn t) 5 ≤ at_ (hn t) 4 + 10 := hs 4 (by omega)
  have a6 : at_ (hn t) 5 + 1 ≤ at_ (hn t) 6 ∧ at_ (hn t) 6 ≤ at_ (hn t) 5 + 10 := hs 5 (by omega)
  have a7 : at_ (hn t) 6 + 1 ≤ at_ (hn t) 7 ∧ at_ (hn t) 7 ≤ at_ (hn t) 6 + 10 := hs 6 (by omega)
  refine ⟨?_, by omega, by omega, hk⟩
  rw [List.length_append] at he
  simp only [four, List.length_cons, List.length_nil] at he
  omega
end Go.Proofs.Ytdnbcfochlfopaa.Hurt
namespace Go.Proofs.Ytdnbcfochlfopaa.Draw
set_option maxRecDepth 8000
open Go.RowKit
set_option linter.unusedVariables false

/-- The bytes that a slice leads to are there, in another block than b. -/
def Bytes (w : World) (b : Nat) (A : Option Addr) (n c : Nat) : Prop :=
  n = 0 ∨ ∃ g o, A = some ⟨g, o, none⟩ ∧ g ≠ b ∧ g < w.heap.size ∧ n ≤ c ∧ ∀ j, j < n → ∃ x : Nat, x < 256 ∧ w.cell? ⟨g, o + j, none⟩ = some (.int .u8 x)
/-- The cursor stands in block b. -/
structure Cur (w : World) (b : Nat) (A : Option Addr) (n c : Nat) : Prop where
  lt : b < w.heap.size
  le : n ≤ 1048576
  s : w.cell? ⟨b, 0, none⟩ = some (.slice A n c)
  i : ∃ i : Nat, i ≤ n ∧ w.cell? ⟨b, 1, none⟩ = some (.int .i64 i)
  h : ∃ h : Int, w.cell? ⟨b, 2, none⟩ = some (.int .i64 h)
  f1 : w.frozen? ⟨b, 1, none⟩ = false
  f2 : w.frozen? ⟨b, 2, none⟩ = false
  by_ : Bytes w b A n c

theorem and255 (y : Int) : 0 ≤ bits .and .i64 y 255 ∧ bits .and .i64 y 255 ≤ 255 := by
  simp only [bits]
  have h : (BitVec.ofInt IntKind.i64.bits y &&& BitVec.ofInt IntKind.i64.bits 255).toNat ≤ 255 := by
    rw [BitVec.toNat_and]
    exact Nat.le_trans Nat.and_le_right (by decide)
  generalize (BitVec.ofInt IntKind.i64.bits y &&& BitVec.ofInt IntKind.i64.bits 255).toNat = k at h
  rw [IntKind.wrap_i64]
  omega

theorem Bytes.grown {w w' : World} {b : Nat} {A : Option Addr} {n c : Nat} (h : Bytes w b A n c) (hg : w.grownBy w' (some b)) : Bytes w' b A n c := by
  rcases h with h | ⟨g, o, h1, h2, h3, h4, h5⟩
  · exact .inl h
  · refine .inr ⟨g, o, h1, h2, Nat.lt_of_lt_of_le h3 hg.size, h4, fun j hj => ?_⟩
    obtain ⟨x, hx, hc⟩ := h5 j hj
    exact ⟨x, hx, hg.cell hc (by simpa using h2)⟩
theorem grown_setCell (w : World) (b j : Nat) (v : Value) : w.grownBy (w.setCell ⟨b, j, none⟩ v) (some b) :=
  ⟨rfl, rfl, rfl, by simp, fun k _ hk => heap_setCell_other w ⟨b, j, none⟩ k v (fun e => hk (by simp [e]))⟩
theorem grown_drew {w w' : World} {r : Option Nat} (h : w.grownBy w' r) : w.grownBy w'.drew r := ⟨h.os, h.tape, h.output, h.size, h.block⟩

theorem Cur.drew {w : World} {b : Nat} {A : Option Addr} {n c : Nat} (h : Cur w b A n c) : Cur w.drew b A n c := ⟨h.lt, h.le, h.s, h.i, h.h, h.f1, h.f2, h.by_⟩
theorem Cur.set2 {w : World} {b : Nat} {A : Option Addr} {n c : Nat} (h : Cur w b A n c) (v : Int) : Cur (w.setCell ⟨b, 2, none⟩ (.int .i64 v)) b A n c := by
  obtain ⟨i, hi, hci⟩ := h.i
  obtain ⟨x, hx⟩ := h.h
  refine ⟨by simpa using h.lt, h.le, ?_, ⟨i, hi, ?_⟩, ⟨v, ?_⟩, ?_, ?_, h.by_.grown (grown_setCell w b 2 _)⟩
  · rw [World.cell?_setCell_other _ _ _ _ (by simp)]; exact h.s
  · rw [World.cell?_setCell_other _ _ _ _ (by simp)]; exact hci
  · exact World.cell?_setCell_same _ _ _ hx
  · rw [World.frozen?_setCell]; exact h.f1
  · rw [World.frozen?_setCell]; exact h.f2
theorem Cur.set1 {w : World} {b : Nat} {A : Option Addr} {n c : Nat} (h : Cur w b A n c) (v : Int) (k : Nat) (hk : k ≤ n) (hv : v = (k : Int)) : Cur (w.setCell ⟨b, 1, none⟩ (.int .i64 v)) b A n c := by
  obtain ⟨i, hi, hci⟩ := h.i
  obtain ⟨x, hx⟩ := h.h
  subst hv
  refine ⟨by simpa using h.lt, h.le, ?_, ⟨k, hk, ?_⟩, ⟨x, ?_⟩, ?_, ?_, h.by_.grown (grown_setCell w b 1 _)⟩
  · rw [World.cell?_setCell_other _ _ _ _ (by simp)]; exact h.s
  · exact World.cell?_setCell_same _ _ _ hci
  · rw [World.cell?_setCell_other _ _ _ _ (by simp)]; exact hx
  · rw [World.frozen?_setCell]; exact h.f1
  · rw [World.frozen?_setCell]; exact h.f2
theorem ret_byte (y : Int) : ∃ x : Nat, x < 256 ∧ Ending.returned (.int .i64 (bits .and .i64 y 255)) = .returned (.int .i64 (x : Int)) := by
  have := and255 y
  exact ⟨(bits .and .i64 y 255).toNat, by omega, by rw [Int.toNat_of_nonneg this.1]⟩

set_option maxRecDepth 4000 in
set_option maxHeartbeats 800000 in
theorem byte_any (b : Nat) (A : Option Addr) (n c : Nat) (w : World) (hc : Cur w b A n c) :
    Calls Try.prog 95 #[.pointer (some ⟨b, 0, none⟩)] w fun e w' => (∃ x : Nat, x < 256 ∧ e = .returned (.int .i64 x)) ∧ Cur w' b A n c ∧ w.grownBy w' (some b) := by
  obtain ⟨i, hi, c1⟩ := hc.i
  obtain ⟨h, c2⟩ := hc.h
  have c0 := hc.s
  have f1 := hc.f1
  have f2 := hc.f2
  have HC := Seg.hid hc
  have hn := hc.le
  clear hc
  by_cases hlt : i < n
  · obtain ⟨g, o, rfl, hgb, hgl, hnc, hby⟩ := HC.out.by_.resolve_left (by omega)
    obtain ⟨x, hx, hcx⟩ := hby i hlt
    have hne : ¬ b = g := fun e => hgb e.symm
    clear hby
    go_enter Try.func95, Try.ntmps95
    go_wp2
    go_region
    go_wp2
    go_region
    go_wp2
    go_region
    go_wp2
    go_ret
    exact ⟨ret_byte _, (((((HC.out.set2 _).drew).drew).drew).set1 _ (i + 1) (by omega) (by omega)), (grown_drew (grown_drew (grown_drew (grown_setCell w b 2 _)))).trans (grown_setCell _ b 1 _)⟩
  · go_enter Try.func95, Try.ntmps95
    go_wp2
    go_region
    go_wp2
    go_region
    go_wp2
    go_ret
    exact ⟨ret_byte _, ((HC.out.set2 _).drew).drew, grown_drew (grown_drew (grown_setCell w b 2 _))⟩

/-- What a reader of the cursor leaves: the cursor, and all else as it was. -/
structure Lft (w w' : World) (b : Nat) (A : Option Addr) (n c : Nat) : Prop where
  cur : Cur w' b A n c
  grown : w.grownBy w' (some b)
theorem Lft.trans {w w1 w2 : World} {b : Nat} {A : Option Addr} {n c : Nat} (h : Lft w w1 b A n c) (k : Lft w1 w2 b A n c) : Lft w w2 b A n c := ⟨k.cur, h.grown.trans k.grown⟩
theorem Lft.refl {w : World} {b : Nat} {A : Option Addr} {n c : Nat} (h : Cur w b A n c) : Lft w w b A n c := ⟨h, World.grownBy.refl _ _⟩

theorem byte_left (b : Nat) (A : Option Addr) (n c : Nat) (w : World) (hc : Cur w b A n c) :
    Calls Try.prog 95 #[.pointer (some ⟨b, 0, none⟩)] w fun e w' => (∃ x : Nat, x < 256 ∧ e = .returned (.int .i64 x)) ∧ Lft w w' b A n c :=
  (byte_any b A n c w hc).mono fun e w' h => ⟨h.1, h.2.1, h.2.2⟩

set_option maxHeartbeats 800000 in
theorem below_any (b : Nat) (A : Option Addr) (n c : Nat) (m : Int) (w : World) (hc : Cur w b A n c) (hm : 0 < m) (hm2 : m ≤ 1000000) :
    Calls Try.prog 63 #[.pointer (some ⟨b, 0, none⟩), .int .i64 m] w fun e w' => (∃ x : Int, 0 ≤ x ∧ x < m ∧ e = .returned (.int .i64 x)) ∧ Lft w w' b A n c := by
  have HC := Seg.hid hc
  clear hc
  by_cases h256 : m ≤ 256
  · go_enter Try.func63, Try.ntmps63
    go_wp2_with fail
    refine (byte_left b A n c _ HC.out).mono ?_
    rintro e w1 ⟨⟨x, hx, rfl⟩, L1⟩
    go_wp2_with fail
    go_ret
    exact ⟨⟨(x : Int) % m, Int.emod_nonneg _ (by omega), Int.emod_lt_of_pos _ hm, rfl⟩, L1⟩
  · go_enter Try.func63, Try.ntmps63
    go_wp2_with fail
    refine (byte_left b A n c _ HC.out).mono ?_
    rintro e w1 ⟨⟨x, hx, rfl⟩, L1⟩
    go_wp2_with fail
    refine (byte_left b A n c _ L1.cur).mono ?_
    rintro e w2 ⟨⟨y, hy, rfl⟩, L2⟩
    go_wp2_with fail
    refine (byte_left b A n c _ L2.cur).mono ?_
    rintro e w3 ⟨⟨z, hz, rfl⟩, L3⟩
    go_wp2_with fail
    refine (byte_left b A n c _ L3.cur).mono ?_
    rintro e w4 ⟨⟨u, hu, rfl⟩, L4⟩
    go_wp2_with fail
    go_ret
    exact ⟨⟨_, Int.emod_nonneg _ (by omega), Int.emod_lt_of_pos _ hm, rfl⟩, ((L1.trans L2).trans L3).trans L4⟩

set_option maxHeartbeats 800000 in
theorem below_none (b : Nat) (A : Option Addr) (n c : Nat) (m : Int) (w : World) (hc : Cur w b A n c) (hm : m ≤ 0) :
    Calls Try.prog 63 #[.pointer (some ⟨b, 0, none⟩), .int .i64 m] w fun e w' => e = .returned (.int .i64 0) ∧ Lft w w' b A n c := by
  have HC := Seg.hid hc
  clear hc
  go_enter Try.func63, Try.ntmps63
  go_wp2_with fail
  go_ret
  exact ⟨rfl, Lft.refl HC.out⟩

theorem once_any (b : Nat) (A : Option Addr) (n c : Nat) (m : Int) (w : World) (hc : Cur w b A n c) (hm : 0 < m) (hm2 : m ≤ 1000000) :
    Calls Try.prog 66 #[.pointer (some ⟨b, 0, none⟩), .int .i64 m] w fun e w' => (∃ x : Bool, e = .returned (.bool x)) ∧ Lft w w' b A n c := by
  have HC := Seg.hid hc
  clear hc
  go_enter Try.func66, Try.ntmps66
  go_wp2_with fail
  refine (below_any b A n c m _ HC.out hm hm2).mono ?_
  rintro e w1 ⟨⟨x, hx1, hx2, rfl⟩, L1⟩
  go_wp2_with fail
  go_ret
  exact ⟨⟨_, rfl⟩, L1⟩

theorem Cur.alloc {w : World} {b : Nat} {A : Option Addr} {n c : Nat} (h : Cur w b A n c) (o : Obj) : Cur (w.alloc o) b A n c := by
  have hg := World.grownBy_alloc w o (some b)
  have k := fun (j : Nat) => World.cell?_of_block (a := ⟨b, j, none⟩) (heap_alloc_old w o h.lt)
  have kf := fun (j : Nat) => World.frozen?_of_block (a := ⟨b, j, none⟩) (heap_alloc_old w o h.lt)
  obtain ⟨i, hi, hci⟩ := h.i
  obtain ⟨x, hx⟩ := h.h
  exact ⟨Nat.lt_of_lt_of_le h.lt hg.size, h.le, by rw [k]; exact h.s, ⟨i, hi, by rw [k]; exact hci⟩, ⟨x, by rw [k]; exact hx⟩, by rw [kf]; exact h.f1, by rw [kf]; exact h.f2, h.by_.grown hg⟩

set_option maxRecDepth 20000 in
set_option maxHeartbeats 800000 in
theorem new_any (A : Option Addr) (n c : Nat) (w : World) (hn : n ≤ 1048576) (hb : Bytes w w.heap.size A n c) :
    Calls Try.prog 62 #[.slice A n c] w fun e w' => ∃ h : Int, e = .returned (.pointer (some ⟨w.heap.size, 0, none⟩)) ∧ w' = w.alloc (.cells #[.slice A n c, .int .i64 0, .int .i64 h] 117) := by
  rcases hb with rfl | ⟨g, o, rfl, hgb, hgl, hnc, hby⟩
  · go_enter Try.func62, Try.ntmps62
    go_wp2
    go_loop [3, 4] (fun h i => i = .int .i64 0 ∧ ∃ v : Int, h = .int .i64 v) (fun _ _ => 0)
    case atStart => exact ⟨rfl, _, rfl⟩
    case round =>
      obtain ⟨rfl, v, rfl⟩ := hrel
      go_wp2
      go_ret
      exact ⟨rfl, v, rfl⟩
  · have HB := Seg.hid hby
    clear hby
    go_enter Try.func62, Try.ntmps62
    go_wp2
    go_loop [3, 4] (fun h i => ∃ k : Nat, k ≤ n ∧ i = .int .i64 k ∧ ∃ v : Int, h = .int .i64 v) (fun _ i => n - (intOf i).toNat)
    case atStart => exact ⟨0, Nat.zero_le _, rfl, _, rfl⟩
    case round =>
      obtain ⟨k, hk, rfl, v, rfl⟩ := hrel
      by_cases hlt : k < n
      · obtain ⟨x, hx, hcx⟩ := HB.out k hlt
        by_cases h4 : k < 4000
        · go_wp2
          go_round
          case rel => exact ⟨k + 1, by omega, by go_num, _, rfl⟩
          case measure => simp [intOf]; omega
        · go_wp2
          go_ret
          exact ⟨rfl, v, rfl⟩
      · go_wp2
        go_ret
        exact ⟨rfl, v, rfl⟩

theorem cur_new {A : Option Addr} {n c : Nat} {w : World} (hn : n ≤ 1048576) (hb : Bytes w w.heap.size A n c) (h : Int) (t : TypeId) :
    Cur (w.alloc (.cells #[.slice A n c, .int .i64 0, .int .i64 h] t)) w.heap.size A n c := by
  have e := heap_alloc_new w (.cells #[.slice A n c, .int .i64 0, .int .i64 h] t)
  have k := fun (j : Nat) => cell_of_row _ w.heap.size j _ _ _ e
  exact ⟨by simp, hn, by rw [k]; rfl, ⟨0, by omega, by rw [k]; rfl⟩, ⟨h, by rw [k]; rfl⟩, frozen_of_row _ _ _ _ _ e, frozen_of_row _ _ _ _ _ e, hb.grown (World.grownBy_alloc _ _ _)⟩
end Go.Proofs.Ytdnbcfochlfopaa.Draw
