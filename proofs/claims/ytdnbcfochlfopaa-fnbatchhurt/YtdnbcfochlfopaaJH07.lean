/- Batches as bytes, on plain lists; Batches read from bytes, on plain lists: both readers in one (st: the model's, which asks more on the way). -/
import Derived.Laws.BytesArg
import Derived.Test.YtdnbcfochlfopaaJH01
import Derived.Test.YtdnbcfochlfopaaJH02
import Derived.Test.YtdnbcfochlfopaaJH04
import Derived.Test.YtdnbcfochlfopaaJH06
namespace Go.Proofs.Ytdnbcfochlfopaa.WrP
set_option maxRecDepth 8000
open Nums (put)
open Recs
set_option linter.unusedVariables false

/-- The bytes of a text. -/
def txt (s : ByteArray) : List Int := s.data.toList.map fun b => (b.toNat : Int)
theorem txt_len (s : ByteArray) : (txt s).length = s.size := by rw [txt, List.length_map, Array.length_toList]; rfl
def txtIf (b : Bool) (s : ByteArray) : List Int := if b then put (s.size : Int) ++ txt s else put (-1)
def hd (h : Hd) : List Int := put (h.key.size : Int) ++ put (h.val.size : Int) ++ txt h.key ++ txt h.val
def hdsB : List Hd → List Int
  | [] => []
  | h :: r => hd h ++ hdsB r
def hds (hs : List Hd) : List Int := put (hs.length : Int) ++ hdsB hs
def hdsV (ver : Int) (hs : List Hd) : List Int := if ver = 2 then hds hs else []
def rec1 (ver last : Int) (r : Rec) : List Int := put (r.time - last) ++ txtIf r.keyed r.key ++ txtIf (!r.gone) r.val ++ hdsV ver r.heads
def recs (ver : Int) : Int → List Rec → List Int
  | _, [] => []
  | last, r :: rs => rec1 ver last r ++ recs ver r.time rs
def body (ver : Int) (rs : List Rec) : List Int := put (rs.length : Int) ++ recs ver 0 rs
def numsB : List Int → List Int
  | [] => []
  | n :: r => put n ++ numsB r
def four (n : Int) : List Int := [n / 16777216 % 256, n / 65536 % 256, n / 256 % 256, n % 256]
def headN (ver : Int) (t : Bat) (k : Int) : List Int := if ver = 2 then [t.base, t.epoch, t.producer, t.turn, t.seq, t.flags, k] else [t.base, t.epoch, t.flags, k]
/-- The body as it is written. -/
def bodyS (t : Bat) (ver : Int) : List Int := if t.flags % 2 = 1 then SqF.sq (body ver t.recs) 0 0 [] else body ver t.recs
def pre (t : Bat) (ver : Int) : List Int := [77, ver] ++ numsB (headN ver t (bodyS t ver).length) ++ bodyS t ver
/-- The version holds the batch. -/
def holds (t : Bat) (ver : Int) : Bool := decide (ver = 2) || (decide (ver = 1) && decide (t.producer = -1) && t.recs.all fun r => decide (r.heads.length = 0))

/-! ### How long they are -/
theorem put_le (n : Int) (h : -1000000000000 ≤ n ∧ n ≤ 1000000000000) : (put n).length ≤ 10 := Nums.put_len (by omega) (by omega)
theorem txtIf_le (b : Bool) (s : ByteArray) (h : s.size ≤ 100) : (txtIf b s).length ≤ 110 := by
  unfold txtIf
  split
  · have := put_le (s.size : Int) (by omega)
    rw [List.length_append, txt_len]; omega
  · have := put_le (-1) (by omega)
    omega
theorem okH_parts {h : Hd} (hk : ROk.okH h = true) : h.key.size ≤ 100 ∧ h.val.size ≤ 100 := by
  simp only [ROk.okH, Bool.and_eq_true, decide_eq_true_eq] at hk
  exact ⟨hk.1.2, hk.2⟩
theorem hd_le {h : Hd} (hk : ROk.okH h = true) : (hd h).length ≤ 220 := by
  obtain ⟨h1, h2⟩ := okH_parts hk
  have a := put_le (h.key.size : Int) (by omega)
  have b := put_le (h.val.size : Int) (by omega)
  simp only [hd, List.length_append, txt_len]
  omega
theorem hdsB_le : ∀ (hs : List Hd), hs.all ROk.okH = true → (hdsB hs).length ≤ 220 * hs.length
  | [], _ => by simp [hdsB]
  | h :: r, hk => by
    simp only [List.all_cons, Bool.and_eq_true] at hk
    have := hd_le hk.1
    have := hdsB_le r hk.2
    simp only [hdsB, List.length_append, List.length_cons]
    omega
theorem okR_parts {r : Rec} (h : ROk.okR r = true) : 0 ≤ r.time ∧ r.time ≤ 1000000000000 ∧ r.key.size ≤ 100 ∧ r.val.size ≤ 100 ∧ r.heads.length ≤ 3 ∧ r.heads.all ROk.okH = true := by
  simp only [ROk.okR, ROk.okR0, Bool.and_eq_true, decide_eq_true_eq] at h
  exact ⟨h.1.1.1.1.1.1, h.1.1.1.1.1.2, h.1.1.1.1.2, h.1.1.1.2, h.1.1.2, h.2⟩
theorem hdsV_le (ver : Int) {hs : List Hd} (h : hs.all ROk.okH = true) (hl : hs.length ≤ 3) : (hdsV ver hs).length ≤ 670 := by
  unfold hdsV
  split
  · have := hdsB_le hs h
    have := put_le (hs.length : Int) (by omega)
    rw [hds, List.length_append]; omega
  · simp
theorem rec1_le (ver last : Int) {r : Rec} (h : ROk.okR r = true) (hl : 0 ≤ last ∧ last ≤ 1000000000000) : (rec1 ver last r).length ≤ 900 := by
  obtain ⟨h1, h2, h3, h4, h5, h6⟩ := okR_parts h
  have a := put_le (r.time - last) (by omega)
  have b := txtIf_le r.keyed r.key h3
  have c := txtIf_le (!r.gone) r.val h4
  have d := hdsV_le ver h6 h5
  simp only [rec1, List.length_append]
  omega
theorem recs_le (ver : Int) : ∀ (rs : List Rec) (last : Int), rs.all ROk.okR = true → 0 ≤ last ∧ last ≤ 1000000000000 → (recs ver last rs).length ≤ 900 * rs.length
  | [], _, _, _ => by simp [recs]
  | r :: rs, last, h, hl => by
    simp only [List.all_cons, Bool.and_eq_true] at h
    obtain ⟨h1, h2, _⟩ := okR_parts h.1
    have := rec1_le ver last h.1 hl
    have := recs_le ver rs r.time h.2 ⟨h1, h2⟩
    simp only [recs, List.length_append, List.length_cons]
    omega
theorem body_le (ver : Int) (rs : List Rec) (h : rs.all ROk.okR = true) (hl : rs.length ≤ 40) : (body ver rs).length ≤ 37000 := by
  have := recs_le ver rs 0 h (by omega)
  have := put_le (rs.length : Int) (by omega)
  rw [body, List.length_append]; omega

/-! ### They are bytes -/
def By (l : List Int) : Prop := ∀ x ∈ l, 0 ≤ x ∧ x < 256
theorem By.app {a b : List Int} (h1 : By a) (h2 : By b) : By (a ++ b) := fun x hx => (List.mem_append.1 hx).elim (h1 x) (h2 x)
theorem by_nil : By [] := fun x hx => by simp at hx
theorem by_put (n : Int) : By (put n) := Back.digs_byte _
theorem by_txt (s : ByteArray) : By (txt s) := fun x hx => by
  simp only [txt, List.mem_map] at hx
  obtain ⟨b, _, rfl⟩ := hx
  have := b.toNat_lt
  omega
theorem by_txtIf (b : Bool) (s : ByteArray) : By (txtIf b s) := by
  unfold txtIf
  split
  · exact (by_put _).app (by_txt _)
  · exact by_put _
theorem by_hd (h : Hd) : By (hd h) := (((by_put _).app (by_put _)).app (by_txt _)).app (by_txt _)
theorem by_hdsB : ∀ hs : List Hd, By (hdsB hs)
  | [] => by_nil
  | h :: r => (by_hd h).app (by_hdsB r)
theorem by_hdsV (ver : Int) (hs : List Hd) : By (hdsV ver hs) := by
  unfold hdsV
  split
  · exact (by_put _).app (by_hdsB _)
  · exact by_nil
theorem by_recs (ver : Int) : ∀ (rs : List Rec) (last : Int), By (recs ver last rs)
  | [], _ => by_nil
  | r :: rs, last => ((((by_put _).app (by_txtIf _ _)).app (by_txtIf _ _)).app (by_hdsV _ _)).app (by_recs ver rs _)
theorem by_body (ver : Int) (rs : List Rec) : By (body ver rs) := (by_put _).app (by_recs _ _ _)
theorem by_nums : ∀ ns : List Int, By (numsB ns)
  | [] => by_nil
  | n :: r => (by_put n).app (by_nums r)
theorem By.byt {l : List Int} (h : By l) : Seg.Byt l := Seg.byt_of h

/-! ### Step by step -/
theorem drop_at {α : Type} [Inhabited α] {l : List α} {k : Nat} (h : k < l.length) : l.drop k = l.getD k default :: l.drop (k + 1) := by
  rw [List.drop_eq_getElem_cons h]
  simp [h]
theorem recs_at (ver last : Int) {rs : List Rec} {k : Nat} (h : k < rs.length) : recs ver last (rs.drop k) = rec1 ver last (rs.getD k default) ++ recs ver (rs.getD k default).time (rs.drop (k + 1)) := by
  rw [drop_at h, recs]
theorem hdsB_at {hs : List Hd} {k : Nat} (h : k < hs.length) : hdsB (hs.drop k) = hd (hs.getD k default) ++ hdsB (hs.drop (k + 1)) := by
  rw [drop_at h, hdsB]
theorem numsB_at {ns : List Int} {k : Nat} (h : k < ns.length) : numsB (ns.drop k) = put (ns.getD k 0) ++ numsB (ns.drop (k + 1)) := by
  rw [List.drop_eq_getElem_cons h, numsB]
  simp [h]
end Go.Proofs.Ytdnbcfochlfopaa.WrP
namespace Go.Proofs.Ytdnbcfochlfopaa.RdP
set_option maxRecDepth 8000
open Nums (put scan unf)
open WrP
open Recs
set_option linter.unusedVariables false

/-- The number at a place, and the place behind it. -/
def num (l : List Int) (p : Nat) : Option (Int × Nat) := (scan l p 0 0).map fun q => (unf q.1, q.2)
/-- So many bytes from a place on. -/
def tk (l : List Int) (p : Nat) (n : Int) : Option (List Int × Nat) := if 0 ≤ n ∧ n ≤ (l.length : Int) - p then some ((l.drop p).take n.toNat, p + n.toNat) else none
def textIf (l : List Int) (p : Nat) : Option ((Bool × ByteArray) × Nat) :=
  match num l p with
  | none => none
  | some (n, q) => if n = -1 then some ((false, ByteArray.empty), q) else (tk l q n).map fun x => ((true, strOfNums x.1), x.2)
/-- One Head. -/
def hd1 (st : Bool) (l : List Int) (p : Nat) : Option (Hd × Nat) :=
  match num l p with
  | none => none
  | some (x, p1) =>
  match num l p1 with
  | none => none
  | some (y, p2) =>
  match tk l p2 x with
  | none => none
  | some (a, p3) =>
  match tk l p3 y with
  | none => none
  | some (b, p4) => if st = true ∧ (100 < x ∨ 100 < y) then none else some (⟨strOfNums a, strOfNums b⟩, p4)
def hds1 (st : Bool) (l : List Int) : Nat → Nat → Option (List Hd × Nat)
  | 0, p => some ([], p)
  | k + 1, p =>
    match hd1 st l p with
    | none => none
    | some (h, q) => (hds1 st l k q).map fun x => (h :: x.1, x.2)
def hdsR (st : Bool) (l : List Int) (p : Nat) : Option (List Hd × Nat) :=
  match num l p with
  | none => none
  | some (n, q) => if 0 ≤ n ∧ n ≤ 3 then hds1 st l n.toNat q else none
def hdsRV (st : Bool) (ver : Int) (l : List Int) (p : Nat) : Option (List Hd × Nat) := if ver = 2 then hdsR st l p else some ([], p)
def rec1R (st : Bool) (ver : Int) (l : List Int) (last : Int) (p : Nat) : Option (Rec × Nat) :=
  match num l p with
  | none => none
  | some (d, p1) =>
  if st = true ∧ ¬ (-1000000000000 ≤ d ∧ d ≤ 1000000000000) then none else
  match textIf l p1 with
  | none => none
  | some ((kd, k), p2) =>
  match textIf l p2 with
  | none => none
  | some ((th, v), p3) =>
  match hdsRV st ver l p3 with
  | none => none
  | some (hs, p4) => some (⟨IntKind.i64.wrap (last + d), kd, k, !th, v, hs⟩, p4)
def recsR (st : Bool) (ver : Int) (l : List Int) : Nat → Int → Nat → Option (List Rec × Nat)
  | 0, _, p => some ([], p)
  | k + 1, last, p =>
    match rec1R st ver l last p with
    | none => none
    | some (r, q) => (recsR st ver l k r.time q).map fun x => (r :: x.1, x.2)
def bodyR (st : Bool) (ver : Int) (l : List Int) : Option (List Rec) :=
  match num l 0 with
  | none => none
  | some (n, p) =>
    if (if st then 1 else 0) ≤ n ∧ n ≤ 40 then
      match recsR st ver l n.toNat 0 p with
      | none => none
      | some (rs, q) => if st = true ∧ q ≠ l.length then none else some rs
    else none
/-- So many numbers. -/
def numsR (l : List Int) : Nat → Nat → Option (List Int × Nat)
  | 0, p => some ([], p)
  | k + 1, p =>
    match num l p with
    | none => none
    | some (n, q) => (numsR l k q).map fun x => (n :: x.1, x.2)

/-! ### What was written is read -/
theorem str_txt (s : ByteArray) : strOfNums (txt s) = s := by
  have : ((fun n : Int => UInt8.ofNat n.toNat) ∘ fun b : UInt8 => (b.toNat : Int)) = id := by funext b; simp
  apply ByteArray.ext
  simp [strOfNums, txt, this]
theorem i64_wrap {x : Int} (h : -9223372036854775808 ≤ x ∧ x ≤ 9223372036854775807) : IntKind.i64.wrap x = x := by rw [IntKind.wrap_i64]; omega
theorem drop_app {l a b : List Int} {p : Nat} (h : l.drop p = a ++ b) : l.drop (p + a.length) = b := by
  rw [← List.drop_drop, h]
  simp
theorem drop_len {l a : List Int} {p : Nat} (h : l.drop p = a) (ha : 0 < a.length) : p + a.length = l.length := by
  have := congrArg List.length h
  rw [List.length_drop] at this
  omega
theorem num_put {l rest : List Int} {p : Nat} {n : Int} (h : l.drop p = put n ++ rest) (hn : -9223372036854775808 ≤ n ∧ n ≤ 9223372036854775807) : num l p = some (n, p + (put n).length) := by
  have hp := Nums.put_pos n
  have hl := drop_len h (by rw [List.length_append]; omega)
  rw [List.length_append] at hl
  have hf := Nums.fold_lt hn.1 hn.2
  have h10 := Nums.put_len hn.1 hn.2
  have hs := Back.scan_digs l p (Nums.fold n) 0 0 (fun i hi => by
    have hi2 : i < (put n).length := hi
    show l.getD (p + 0 + i) 0 = (put n).getD i 0
    have : (l.drop p)[i]? = (put n)[i]? := by rw [h, List.getElem?_append_left hi2]
    rw [List.getElem?_drop] at this
    simp only [List.getD_eq_getElem?_getD, Nat.add_zero, this]) (by show p + 0 + (put n).length ≤ l.length; omega) (by show 0 + (put n).length ≤ 10; omega) (by simpa using hf) (.inr rfl)
  rw [num, hs]
  simp only [Option.map_some, Back.unf_fold, Nat.mul_zero, Nat.pow_zero, Nat.mul_one, Nat.zero_add, Nat.add_zero]
  rfl
theorem tk_app {l a rest : List Int} {p : Nat} (h : l.drop p = a ++ rest) (hp : p ≤ l.length) : tk l p (a.length : Int) = some (a, p + a.length) := by
  have hl := congrArg List.length h
  rw [List.length_drop, List.length_append] at hl
  rw [tk, if_pos (by omega), Int.toNat_natCast, h, List.take_left]
theorem app_le {l a b : List Int} {p : Nat} (h : l.drop p = a ++ b) (hp : p ≤ l.length) : p + a.length ≤ l.length := by
  have hl := congrArg List.length h
  rw [List.length_drop, List.length_append] at hl
  omega
theorem textIf_app {l rest : List Int} {p : Nat} {b : Bool} {s : ByteArray} (h : l.drop p = txtIf b s ++ rest) (hp : p ≤ l.length) (hs : s.size ≤ 1000) (he : b = false → s = ByteArray.empty) : textIf l p = some ((b, s), p + (txtIf b s).length) := by
  cases b with
  | false =>
    have h' : l.drop p = put (-1) ++ rest := h
    rw [textIf, num_put h' (by omega)]
    simp only [if_true, he rfl]
    rfl
  | true =>
    have h' : l.drop p = put (s.size : Int) ++ (txt s ++ rest) := by rw [h, txtIf, if_pos rfl, List.append_assoc]
    have hp2 := app_le h' hp
    have := tk_app (drop_app h') hp2
    rw [txt_len] at this
    rw [textIf, num_put h' (by omega)]
    show (if (s.size : Int) = -1 then _ else _) = _
    rw [if_neg (by omega), this]
    simp only [Option.map_some, str_txt, txtIf, if_true, List.length_append, txt_len, Nat.add_assoc]
theorem hd1_app {st : Bool} {l rest : List Int} {p : Nat} {h : Hd} (hh : l.drop p = hd h ++ rest) (hp : p ≤ l.length) (hk : ROk.okH h = true) : hd1 st l p = some (h, p + (hd h).length) := by
  obtain ⟨k1, k2⟩ := okH_parts hk
  have h1 : l.drop p = put (h.key.size : Int) ++ (put (h.val.size : Int) ++ (txt h.key ++ (txt h.val ++ rest))) := by rw [hh, hd]; simp only [List.append_assoc]
  have p1 := app_le h1 hp
  have h2 := drop_app h1
  have p2 := app_le h2 p1
  have h3 := drop_app h2
  have p3 := app_le h3 p2
  have h4 := drop_app h3
  have t3 := tk_app h3 p2
  have t4 := tk_app h4 p3
  rw [txt_len] at t3 t4 h4
  rw [txt_len] at t4
  rw [hd1, num_put h1 (by omega)]
  show (match num l _ with | none => none | some (y, p2) => _) = _
  rw [num_put h2 (by omega)]
  show (match tk l _ _ with | none => none | some (a, p3) => _) = _
  rw [t3]
  show (match tk l _ _ with | none => none | some (b, p4) => _) = _
  rw [t4]
  show (if _ then _ else _) = _
  rw [if_neg (by omega), str_txt, str_txt]
  simp only [hd, List.length_append, txt_len, Nat.add_assoc]
theorem hds1_app {st : Bool} {l : List Int} : ∀ (hs : List Hd) (p : Nat) (rest : List Int), l.drop p = hdsB hs ++ rest → p ≤ l.length → hs.all ROk.okH = true → hds1 st l hs.length p = some (hs, p + (hdsB hs).length)
  | [], p, rest, h, hp, hk => by simp [hds1, hdsB]
  | x :: hs, p, rest, h, hp, hk => by
    simp only [List.all_cons, Bool.and_eq_true] at hk
    have h1 : l.drop p = hd x ++ (hdsB hs ++ rest) := by rw [h, hdsB, List.append_assoc]
    have ih := hds1_app (st := st) hs (p + (hd x).length) rest (drop_app h1) (app_le h1 hp) hk.2
    rw [List.length_cons, hds1, hd1_app h1 hp hk.1]
    show (hds1 st l hs.length _).map _ = _
    rw [ih]
    simp [hdsB, Nat.add_assoc]
theorem hdsRV_app {st : Bool} {ver : Int} {l rest : List Int} {p : Nat} {hs : List Hd} (h : l.drop p = hdsV ver hs ++ rest) (hp : p ≤ l.length) (hk : hs.all ROk.okH = true) (hl : hs.length ≤ 3) (hv : ver = 2 ∨ hs = []) : hdsRV st ver l p = some (hs, p + (hdsV ver hs).length) := by
  by_cases h2 : ver = 2
  · have h1 : l.drop p = put (hs.length : Int) ++ (hdsB hs ++ rest) := by rw [h, hdsV, if_pos h2, hds, List.append_assoc]
    have := hds1_app (st := st) hs _ rest (drop_app h1) (app_le h1 hp) hk
    rw [hdsRV, if_pos h2, hdsR, num_put h1 (by omega)]
    show (if _ then _ else _) = _
    rw [if_pos (by omega), Int.toNat_natCast, this, hdsV, if_pos h2, hds, List.length_append, Nat.add_assoc]
  · rw [hdsRV, if_neg h2, hdsV, if_neg h2, hv.resolve_left h2]
    rfl
theorem okR_empty {r : Rec} (h : ROk.okR r = true) : (r.keyed = false → r.key = ByteArray.empty) ∧ (r.gone = true → r.val = ByteArray.empty) := by
  have emp : ∀ s : ByteArray, s.toList = [] → s = ByteArray.empty := fun s hs => by
    apply ByteArray.ext
    have := congrArg List.length hs
    rw [ByteArray.toList_eq] at hs
    apply Array.toList_inj.1
    simpa using hs
  have : ROk.okR1 r = true := by
    simp only [ROk.okR, Bool.and_eq_true] at h
    exact h.1.2
  simp only [ROk.okR1, Bool.and_eq_true, Bool.or_eq_true] at this
  constructor
  · intro hk
    rcases this.1 with h1 | h1
    · rw [hk] at h1; simp at h1
    · exact emp _ (by simpa using h1)
  · intro hk
    rcases this.2 with h1 | h1
    · rw [hk] at h1; simp at h1
    · exact emp _ (by simpa using h1)
theorem rec1R_app {st : Bool} {ver last : Int} {l rest : List Int} {p : Nat} {r : Rec} (h : l.drop p = rec1 ver last r ++ rest) (hp : p ≤ l.length) (hk : ROk.okR r = true) (hl : 0 ≤ last ∧ last ≤ 1000000000000) (hv : ver = 2 ∨ r.heads = []) : rec1R st ver l last p = some (r, p + (rec1 ver last r).length) := by
  obtain ⟨k1, k2, k3, k4, k5, k6⟩ := okR_parts hk
  obtain ⟨e1, e2⟩ := okR_empty hk
  have h1 : l.drop p = put (r.time - last) ++ (txtIf r.keyed r.key ++ (txtIf (!r.gone) r.val ++ (hdsV ver r.heads ++ rest))) := by rw [h, rec1]; simp only [List.append_assoc]
  have p1 := app_le h1 hp
  have h2 := drop_app h1
  have p2 := app_le h2 p1
  have h3 := drop_app h2
  have p3 := app_le h3 p2
  have h4 := drop_app h3
  have t2 := textIf_app h2 p1 (by omega) e1
  have t3 := textIf_app h3 p2 (by omega) (fun hg => e2 (by simpa using hg))
  have t4 := hdsRV_app (st := st) h4 p3 k6 k5 hv
  rw [rec1R, num_put h1 (by omega)]
  show (if _ then _ else _) = _
  rw [if_neg (by omega), t2]
  show (match textIf l _ with | none => none | some ((th, v), p3) => _) = _
  rw [t3]
  show (match hdsRV st ver l _ with | none => none | some (hs, p4) => _) = _
  rw [t4]
  have hw : IntKind.i64.wrap (last + (r.time - last)) = r.time := by rw [i64_wrap (by omega)]; omega
  simp only [hw, Bool.not_not, rec1, List.length_append, Nat.add_assoc]
theorem recsR_app {st : Bool} {ver : Int} {l : List Int} : ∀ (rs : List Rec) (last : Int) (p : Nat) (rest : List Int), l.drop p = recs ver last rs ++ rest → p ≤ l.length → rs.all ROk.okR = true → 0 ≤ last ∧ last ≤ 1000000000000 → (ver = 2 ∨ ∀ r ∈ rs, r.heads = []) → recsR st ver l rs.length last p = some (rs, p + (recs ver last rs).length)
  | [], last, p, rest, h, hp, hk, hl, hv => by simp [recsR, recs]
  | r :: rs, last, p, rest, h, hp, hk, hl, hv => by
    simp only [List.all_cons, Bool.and_eq_true] at hk
    obtain ⟨k1, k2, _⟩ := okR_parts hk.1
    have h1 : l.drop p = rec1 ver last r ++ (recs ver r.time rs ++ rest) := by rw [h, recs, List.append_assoc]
    have ih := recsR_app (st := st) rs r.time _ rest (drop_app h1) (app_le h1 hp) hk.2 ⟨k1, k2⟩ (hv.imp id fun h x hx => h x (by simp [hx]))
    rw [List.length_cons, recsR, rec1R_app h1 hp hk.1 hl (hv.imp id fun h => h r (by simp))]
    show (recsR st ver l rs.length _ _).map _ = _
    rw [ih]
    simp [recs, Nat.add_assoc]
theorem bodyR_app {st : Bool} {ver : Int} {rs : List Rec} (hk : rs.all ROk.okR = true) (hl : 1 ≤ rs.length ∧ rs.length ≤ 40) (hv : ver = 2 ∨ ∀ r ∈ rs, r.heads = []) : bodyR st ver (body ver rs) = some rs := by
  have h1 : (body ver rs).drop 0 = put (rs.length : Int) ++ (recs ver 0 rs ++ []) := by rw [List.drop_zero, List.append_nil]; rfl
  have ih := recsR_app (st := st) rs 0 _ [] (drop_app h1) (app_le h1 (Nat.zero_le _)) hk (by omega) hv
  rw [bodyR, num_put h1 (by omega)]
  show (if _ then _ else _) = _
  rw [if_pos (by cases st <;> simp <;> omega), Int.toNat_natCast, ih]
  show (if _ then _ else _) = _
  rw [if_neg]
  intro hx
  apply hx.2
  rw [body, List.length_append]
  omega
end Go.Proofs.Ytdnbcfochlfopaa.RdP
