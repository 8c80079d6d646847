/- Rules out of their text, as the program reads them, on plain data. -/
import Derived.Test.YtaninhajnfgkkaaDoorPrP
import Derived.Lib.Split
import Derived.Laws.RangeAny
namespace Go.Proofs.YtaninhajnfgkkaaDoor.PaP
set_option maxRecDepth 8000
open Go.RowKit
open Ls Lp RuP TxP PrP
set_option linter.unusedVariables false
/-- The pieces between bytes, by the place of the first one. -/
theorem cut_index (c : UInt8) : ∀ (l acc : List UInt8), cutF c l acc = if Lib.index l [c] = -1 then [acc ++ l] else (acc ++ l.take (Lib.index l [c]).toNat) :: cutF c (l.drop ((Lib.index l [c]).toNat + 1)) []
  | [], acc => by simp [cutF, Lib.index]
  | b :: r, acc => by
    rw [cutF]
    by_cases h : b = c
    · subst h
      have e : Lib.index (b :: r) [b] = 0 := by simp [Lib.index, List.isPrefixOf]
      rw [if_pos rfl, e]
      simp
    · have hp : ([c] : List UInt8).isPrefixOf (b :: r) = false := by simp [List.isPrefixOf, Ne.symm h]
      rw [if_neg h, cut_index c r (acc ++ [b])]
      by_cases h2 : Lib.index r [c] = -1
      · have e : Lib.index (b :: r) [c] = -1 := by rw [Lib.index, hp, h2]; rfl
        rw [if_pos h2, if_pos e]
        simp
      · have hge := Lib.index_ge r [c]
        have e : Lib.index (b :: r) [c] = Lib.index r [c] + 1 := by
          rw [Lib.index, hp]
          have : (Lib.index r [c] == -1) = false := by simpa using h2
          rw [this]
          rfl
        rw [if_neg h2, if_neg (by omega), e]
        have e2 : (Lib.index r [c] + 1).toNat = (Lib.index r [c]).toNat + 1 := by omega
        rw [e2]
        simp
theorem split_cut (c : UInt8) : ∀ (n : Nat) (s : List UInt8), s.length ≤ n → Lib.splitK [c] 0 (Lib.count s [c]) s = cutF c s [] ∧ (cutF c s []).length = Lib.count s [c] + 1
  | n, s, hn => by
    rcases Lib.index_spec s [c] with ⟨h, _⟩ | ⟨i, h, hi, _⟩
    · rw [Lib.count_miss h, cut_index, if_pos h]
      exact ⟨rfl, rfl⟩
    · have hr := Lib.index_room s [c] (by omega)
      simp only [List.length_cons, List.length_nil] at hr
      rw [Lib.count_hit (by simp) h, cut_index, if_neg (by omega), Nat.add_comm 1]
      have e : (Lib.index s [c]).toNat = i := by omega
      cases n with
      | zero => omega
      | succ n =>
        obtain ⟨a1, a2⟩ := split_cut c n (s.drop (i + 1)) (by rw [List.length_drop]; omega)
        have a1' : Lib.splitK [c] 0 (Lib.count (s.drop (i + [c].length)) [c]) (s.drop (i + [c].length)) = cutF c (s.drop (i + 1)) [] := a1
        refine ⟨?_, ?_⟩
        · rw [Lib.splitK, if_neg (by simp; omega), e, a1']
          simp
        · rw [e, List.length_cons, a2]
          rfl
theorem splitB_cut (s : ByteArray) : (Lib.splitB ⟨#[32]⟩ 0 (Lib.countB s ⟨#[32]⟩) s) = (cutF 32 s.toList []).map bsOf ∧ Lib.countB s ⟨#[32]⟩ + 1 = (cutF 32 s.toList []).length := by
  obtain ⟨h1, h2⟩ := split_cut 32 s.data.toList.length s.data.toList (Nat.le_refl _)
  rw [toList_data]
  refine ⟨?_, h2.symm⟩
  have h3 := Lib.splitB_data ⟨#[32]⟩ 0 (Lib.countB s ⟨#[32]⟩) s
  have h4 : (Lib.splitB ⟨#[32]⟩ 0 (Lib.countB s ⟨#[32]⟩) s).map (·.data.toList) = cutF 32 s.data.toList [] := h3.trans h1
  rw [← h4, List.map_map]
  have : (bsOf ∘ fun x : ByteArray => x.data.toList) = id := by
    funext x
    show bsOf x.data.toList = x
    apply ByteArray.ext
    simp [bsOf]
  rw [this, List.map_id]
/-- The place of a word in a list; -1: it is not there. -/
def idxF (w : List UInt8) : List ByteArray → Nat → Int
  | [], _ => -1
  | x :: r, i => if x.toList = w then (i : Int) else idxF w r (i + 1)
def idx (L : List ByteArray) (w : List UInt8) : Int := idxF w L 0
theorem idx_step {L : List ByteArray} {w : List UInt8} {k : Nat} (h : k < L.length) : idxF w (L.drop k) k = if (L.getD k ⟨#[]⟩).toList = w then (k : Int) else idxF w (L.drop (k + 1)) (k + 1) := by
  rw [List.drop_eq_getElem_cons h]
  simp [idxF, h]
theorem idx_end {L : List ByteArray} {w : List UInt8} {k : Nat} (h : L.length ≤ k) : idxF w (L.drop k) k = -1 := by
  rw [List.drop_eq_nil_of_le h]; rfl
theorem idx_place (w : List UInt8) : ∀ (L : List ByteArray) (i : Nat), 1 ≤ i → (idxF w L i = placeF w L i ∧ (i : Int) ≤ idxF w L i) ∨ (idxF w L i = -1 ∧ placeF w L i = 0)
  | [], i, _ => .inr ⟨rfl, rfl⟩
  | x :: r, i, hi => by
    rw [idxF, placeF]
    by_cases h : x.toList = w
    · rw [if_pos h, if_pos h]; exact .inl ⟨rfl, Int.le_refl _⟩
    · rw [if_neg h, if_neg h]
      rcases idx_place w r (i + 1) (by omega) with ⟨a, b⟩ | h2
      · exact .inl ⟨a, by omega⟩
      · exact .inr h2
def mkI (ws : List (List UInt8)) : Rul :=
  { deny := wd ws 0 == [100, 101, 110, 121], who := bsOf (wd ws 1), may := idx mayL (wd ws 2), on := idx onL (wd ws 3),
    name := if star (wd ws 4) = true then bsOf (wd ws 4).dropLast else bsOf (wd ws 4), begins := star (wd ws 4) }
theorem empty_list (x : ByteArray) (h : x.toList = []) : x.size = 0 := by rw [← size_list, h]; rfl
theorem place_none : ∀ (L : List ByteArray) (i : Nat), (∀ x ∈ L, x.size ≠ 0) → placeF [] L i = 0
  | [], _, _ => rfl
  | x :: r, i, h => by
    rw [placeF, if_neg (fun e => h x (by simp) (empty_list x e)), place_none r (i + 1) (fun y hy => h y (by simp [hy]))]
/-- A word's number by either way is the same, or neither may stand. -/
theorem word_eq (a : ByteArray) (L : List ByteArray) (w : List UInt8) (ha : a.size = 0) (hL : ∀ x ∈ L, x.size ≠ 0) : (idx (a :: L) w = place (a :: L) w) ∨ (idx (a :: L) w < 1 ∧ place (a :: L) w < 1) := by
  unfold idx place
  rw [idxF, List.drop_succ_cons, List.drop_zero]
  by_cases h : a.toList = w
  · rw [if_pos h]
    have hw : w = [] := by rw [← h]; exact List.length_eq_zero_iff.1 (by rw [size_list, ha])
    rw [hw, place_none L 1 hL]
    exact .inr ⟨by decide, by decide⟩
  · rw [if_neg h]
    rcases idx_place w L 1 (Nat.le_refl _) with ⟨a1, b1⟩ | ⟨a1, b1⟩
    · exact .inl a1
    · refine .inr ⟨?_, by omega⟩
      show idxF w L (0 + 1) < 1
      rw [Nat.zero_add]
      omega
theorem may_eq (w : List UInt8) : (idx mayL w = place mayL w) ∨ (idx mayL w < 1 ∧ place mayL w < 1) := word_eq _ _ w rfl (by decide)
theorem on_eq (w : List UInt8) : (idx onL w = place onL w) ∨ (idx onL w < 1 ∧ place onL w < 1) := word_eq _ _ w rfl (by decide)
theorem inR_low {lo x hi : Int} (h : x < lo) : inR lo x hi = false := by unfold inR; rw [decide_eq_false (by omega)]; rfl
/-- Both ways of reading a line's words come to one. -/
theorem mk_same (ws : List (List UInt8)) : okR (mkI ws) = okR (mk ws) ∧ (okR (mk ws) = true → mkI ws = mk ws) := by
  rcases may_eq (wd ws 2) with h1 | ⟨h1, h1'⟩
  · rcases on_eq (wd ws 3) with h2 | ⟨h2, h2'⟩
    · have e : mkI ws = mk ws := by unfold mkI mk; rw [h1, h2]
      exact ⟨by rw [e], fun _ => e⟩
    · have a : okR (mkI ws) = false := by
        have : inR 1 (mkI ws).on 2 = false := inR_low h2
        simp [okR, this]
      have b : okR (mk ws) = false := by
        have : inR 1 (mk ws).on 2 = false := inR_low h2'
        simp [okR, this]
      exact ⟨by rw [a, b], fun h => by rw [b] at h; cases h⟩
  · have a : okR (mkI ws) = false := by
      have : inR 1 (mkI ws).may 4 = false := inR_low h1
      simp [okR, this]
    have b : okR (mk ws) = false := by
      have : inR 1 (mk ws).may 4 = false := inR_low h1'
      simp [okR, this]
    exact ⟨by rw [a, b], fun h => by rw [b] at h; cases h⟩
/-- What a line is read as. -/
def rdOk (ws : List (List UInt8)) : Bool := wsOk ws && okR (mkI ws)
def zeroR : Rul := ⟨false, ⟨#[]⟩, 0, 0, ⟨#[]⟩, false⟩
def rdR (ws : List (List UInt8)) : Rul := if wsOk ws = true then mkI ws else zeroR
theorem star_suffix (l : List UInt8) : Lib.hasSuffix l [42] = star l := by
  unfold Lib.hasSuffix star
  rcases List.eq_nil_or_concat l with rfl | ⟨m, b, rfl⟩
  · rfl
  · rw [List.concat_eq_append, List.getLast?_concat, ← List.concat_eq_append]
    have : ([42] : List UInt8).isSuffixOf (m.concat b) = ((42 : UInt8) == b) := by
      simp [List.isSuffixOf, List.isPrefixOf]
    simp only [List.concat_eq_append] at this ⊢
    rw [this]
    rw [decide_eq_true (by simp), Bool.true_and, Bool.eq_iff_iff]
    constructor <;> (intro h; simp at h ⊢; exact h.symm)
theorem star_trim (l : List UInt8) : (⟨(Lib.trimSuffix l [42]).toArray⟩ : ByteArray) = if star l = true then bsOf l.dropLast else bsOf l := by
  unfold Lib.trimSuffix
  rw [star_suffix]
  split
  · rw [List.dropLast_eq_take]; rfl
  · rfl
/-- A byte of 128 or more, and those of the same rune behind it. -/
theorem dec_high (s : ByteArray) (pos : Nat) (h : pos < s.size) (ha : 128 ≤ (s[pos]'h).toNat) : pos + (Utf8.decode s pos).2 ≤ s.size ∧ ∀ j, j < (Utf8.decode s pos).2 → 128 ≤ (s.get! (pos + j)).toNat := by
  have hn : ¬ (s[pos]'h).toNat < 128 := by omega
  have h0 : 128 ≤ (s.get! (pos + 0)).toNat := by rw [get_at s pos h]; exact ha
  have one : pos + 1 ≤ s.size ∧ ∀ j, j < 1 → 128 ≤ (s.get! (pos + j)).toNat := by
    refine ⟨by omega, fun j hj => ?_⟩
    obtain rfl : j = 0 := by omega
    exact h0
  simp only [Utf8.decode, get_at s pos h, hn, if_false]
  split
  · rename_i hc
    simp only [Bool.and_eq_true, decide_eq_true_eq, beq_iff_eq] at hc
    split
    · refine ⟨by show pos + 2 ≤ _; omega, fun j hj => ?_⟩
      have hj' : j < 2 := hj
      match j, hj' with
      | 0, _ => exact h0
      | 1, _ => omega
    · exact one
  · split
    · rename_i hc
      simp only [Bool.and_eq_true, decide_eq_true_eq, beq_iff_eq] at hc
      split
      · refine ⟨by show pos + 3 ≤ _; omega, fun j hj => ?_⟩
        have hj' : j < 3 := hj
        match j, hj' with
        | 0, _ => exact h0
        | 1, _ => omega
        | 2, _ => omega
      · exact one
    · split
      · rename_i hc
        simp only [Bool.and_eq_true, decide_eq_true_eq, beq_iff_eq] at hc
        split
        · refine ⟨by show pos + 4 ≤ _; omega, fun j hj => ?_⟩
          have hj' : j < 4 := hj
          match j, hj' with
          | 0, _ => exact h0
          | 1, _ => omega
          | 2, _ => omega
          | 3, _ => omega
        · exact one
      · exact one
/-- One rune of a text: a line's end, or some bytes none of which is one. -/
theorem dec_line (s : ByteArray) (pos : Nat) (h : pos < s.size) : 1 ≤ (Utf8.decode s pos).2 ∧ pos + (Utf8.decode s pos).2 ≤ s.size ∧ (((Utf8.decode s pos).1 = 10 ∧ (Utf8.decode s pos).2 = 1 ∧ s[pos] = 10) ∨ ((Utf8.decode s pos).1 ≠ 10 ∧ ∀ b ∈ (s.toList.drop pos).take (Utf8.decode s pos).2, b ≠ 10)) := by
  by_cases ha : (s[pos]'h).toNat < 128
  · rw [decode_ascii s pos h ha]
    refine ⟨Nat.le_refl _, h, ?_⟩
    by_cases h10 : s[pos] = 10
    · exact .inl ⟨by rw [h10]; rfl, rfl, h10⟩
    · refine .inr ⟨fun e => h10 (UInt8.toNat_inj.1 e), fun b hb => ?_⟩
      rw [get_list s h] at hb
      simp only [List.take_succ_cons, List.take_zero, List.mem_singleton] at hb
      rw [hb]; exact h10
  · have hh := decode_high s pos h (by omega)
    have hd := dec_high s pos h (by omega)
    refine ⟨hh.2, hd.1, .inr ⟨by omega, fun b hb => ?_⟩⟩
    obtain ⟨j, hj, rfl⟩ := List.mem_iff_getElem.1 hb
    simp only [List.length_take, List.length_drop] at hj
    have h2 := hd.2 j (by omega)
    have h3 : pos + j < s.size := by omega
    have e : s.get! (pos + j) = ((s.toList.drop pos).take (Utf8.decode s pos).2)[j]'(by simp only [List.length_take, List.length_drop]; exact hj) := by
      have := get_at s (pos + j) h3
      rw [Nat.add_zero] at this
      rw [this]
      simp only [List.getElem_take, List.getElem_drop, toList_data]
      rfl
    rw [e] at h2
    intro e10
    rw [e10] at h2
    exact absurd h2 (by decide)
theorem lin_skip : ∀ (l1 l2 acc : List UInt8), (∀ b ∈ l1, b ≠ 10) → linF (l1 ++ l2) acc = linF l2 (acc ++ l1)
  | [], l2, acc, _ => by simp
  | b :: r, l2, acc, h => by
    rw [List.cons_append, linF, if_neg (h b (by simp)), lin_skip r l2 (acc ++ [b]) (fun x hx => h x (by simp [hx]))]
    simp
/-- How far the scanner is: what was read, where the line begins, where it stands. -/
structure Sc (t : ByteArray) (pos bg : Nat) (out : List Rul) : Prop where
  hp : pos ≤ t.size
  hb : bg ≤ pos
  len : out.length ≤ 100
  free : ∀ b ∈ (t.toList.drop bg).take (pos - bg), b ≠ 10
  eq : parseF (linF (t.toList.drop pos) ((t.toList.drop bg).take (pos - bg))) out.length out = parse t
theorem Sc.start {t : ByteArray} (h : t.size ≤ 4000) : Sc t 0 0 [] := ⟨Nat.zero_le _, Nat.le_refl _, by simp, by simp, by simp [parse, Nat.not_lt.2 h]⟩
theorem Sc.skip {t : ByteArray} {pos bg : Nat} {out : List Rul} (S : Sc t pos bg out) {n : Nat} (hn : pos + n ≤ t.size) (hb : ∀ b ∈ (t.toList.drop pos).take n, b ≠ 10) : Sc t (pos + n) bg out := by
  have e : (t.toList.drop bg).take (pos + n - bg) = (t.toList.drop bg).take (pos - bg) ++ (t.toList.drop pos).take n := by
    rw [show pos + n - bg = (pos - bg) + n by have := S.hb; omega, List.take_add, List.drop_drop, show bg + (pos - bg) = pos by have := S.hb; omega]
  refine ⟨hn, by have := S.hb; omega, S.len, ?_, ?_⟩
  · rw [e]
    intro b hb'
    rcases List.mem_append.1 hb' with h | h
    · exact S.free b h
    · exact hb b h
  · rw [e, ← S.eq]
    conv => rhs; rw [show t.toList.drop pos = (t.toList.drop pos).take n ++ t.toList.drop (pos + n) by rw [← List.drop_drop, List.take_append_drop], lin_skip _ _ _ hb]
theorem Sc.done {t : ByteArray} {bg : Nat} {out : List Rul} (S : Sc t t.size bg out) : parse t = if bg = t.size then (out, 0) else ([], ((out.length + 1 : Nat) : Int)) := by
  rw [← S.eq, List.drop_eq_nil_of_le (by rw [size_list]; omega), linF]
  by_cases h : bg = t.size
  · rw [if_pos h, if_pos (by rw [h, Nat.sub_self]; rfl)]; rfl
  · have hne : (t.toList.drop bg).take (t.size - bg) ≠ [] := fun e => by
      have := congrArg List.length e
      simp only [List.length_take, List.length_drop, size_list, List.length_nil] at this
      have := S.hb
      omega
    rw [if_neg h, if_neg hne, parseF]
    have : lnOk ((t.toList.drop bg).take (t.size - bg)) out.length = false := by
      unfold lnOk
      have h2 : (((t.toList.drop bg).take (t.size - bg)).getLast? == some 10) = false := by
        rw [beq_eq_false_iff_ne]
        intro e
        exact S.free 10 (List.mem_of_getLast? e) rfl
      rw [h2]; rfl
    rw [this]; rfl
theorem Sc.line {t : ByteArray} {pos bg : Nat} {out : List Rul} (S : Sc t pos bg out) (h : pos < t.size) (h10 : t[pos] = 10) :
    parse t = if lnOk ((t.toList.drop bg).take (pos - bg) ++ [10]) out.length = true then parseF (linF (t.toList.drop (pos + 1)) []) (out.length + 1) (out ++ [PrP.mk (wsOf ((t.toList.drop bg).take (pos - bg) ++ [10]))]) else ([], ((out.length + 1 : Nat) : Int)) := by
  rw [← S.eq, get_list t h, h10, linF, if_pos rfl, parseF]
theorem ln_ok (l : List UInt8) (n : Nat) : lnOk (l ++ [10]) n = (decide (n < 100) && rdOk (cutF 32 l [])) := by
  unfold lnOk wsOf rdOk
  rw [List.getLast?_append]
  simp only [List.getLast?_singleton, Option.some_or, List.dropLast_concat, (mk_same _).1]
  simp
theorem Sc.stop {t : ByteArray} {pos bg : Nat} {out : List Rul} (S : Sc t pos bg out) (h : pos < t.size) (h10 : t[pos] = 10) (hno : (decide (out.length < 100) && rdOk (cutF 32 ((t.toList.drop bg).take (pos - bg)) [])) = false) : parse t = ([], ((out.length + 1 : Nat) : Int)) ∧ bg ≠ t.size := by
  refine ⟨?_, by have := S.hb; omega⟩
  rw [S.line h h10, ln_ok, if_neg (by rw [hno]; decide)]
theorem Sc.more {t : ByteArray} {pos bg : Nat} {out : List Rul} (S : Sc t pos bg out) (h : pos < t.size) (h10 : t[pos] = 10) (hl : out.length < 100) (ho : rdOk (cutF 32 ((t.toList.drop bg).take (pos - bg)) []) = true) : Sc t (pos + 1) (pos + 1) (out ++ [mkI (cutF 32 ((t.toList.drop bg).take (pos - bg)) [])]) := by
  have e := S.line h h10
  rw [ln_ok, if_pos (by rw [ho, decide_eq_true hl]; rfl)] at e
  have hm : mkI (cutF 32 ((t.toList.drop bg).take (pos - bg)) []) = PrP.mk (cutF 32 ((t.toList.drop bg).take (pos - bg)) []) := by
    refine (mk_same _).2 ?_
    rw [← (mk_same _).1]
    simp only [rdOk, Bool.and_eq_true] at ho
    exact ho.2
  refine ⟨h, Nat.le_refl _, by simp; omega, by simp, ?_⟩
  rw [Nat.sub_self, List.take_zero, List.length_append, hm, e]
  simp only [wsOf, List.dropLast_concat, List.length_cons, List.length_nil]
end Go.Proofs.YtaninhajnfgkkaaDoor.PaP
