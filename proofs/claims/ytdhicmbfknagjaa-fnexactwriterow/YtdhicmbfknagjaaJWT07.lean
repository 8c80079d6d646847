/- Batches as bytes, on plain lists; What foldSign answers: the sign folded into the lowest bit. -/
import Derived.WalkKit
import Derived.Outline
import Derived.Test.YtdhicmbfknagjaaRows
import Derived.Test.YtdhicmbfknagjaaJWT01
import Derived.Test.YtdhicmbfknagjaaJWT02
import Derived.Test.YtdhicmbfknagjaaJWT04
import Derived.Test.YtdhicmbfknagjaaJWT06
namespace Go.Proofs.Ytdhicmbfknagjaa.WrP
set_option maxRecDepth 8000
open Nums (put)
open Recs
set_option linter.unusedVariables false

/-- The bytes of a text. -/
def txt (s : ByteArray) : List Int := s.data.toList.map fun b => (b.toNat : Int)
theorem txt_len (s : ByteArray) : (txt s).length = s.size := by rw [txt, List.length_map, Array.length_toList]; rfl
def txtIf (b : Bool) (s : ByteArray) : List Int := if b then put (s.size : Int) ++ txt s else put (-1)
def hd (h : Hd) : List Int := put (h.key.size : Int) ++ put (h.val.size : Int) ++ txt h.key ++ txt h.val
def hdsB : List Hd → List Int
  | [] => []
  | h :: r => hd h ++ hdsB r
def hds (hs : List Hd) : List Int := put (hs.length : Int) ++ hdsB hs
def hdsV (ver : Int) (hs : List Hd) : List Int := if ver = 2 then hds hs else []
def rec1 (ver last : Int) (r : Rec) : List Int := put (r.time - last) ++ txtIf r.keyed r.key ++ txtIf (!r.gone) r.val ++ hdsV ver r.heads
def recs (ver : Int) : Int → List Rec → List Int
  | _, [] => []
  | last, r :: rs => rec1 ver last r ++ recs ver r.time rs
def body (ver : Int) (rs : List Rec) : List Int := put (rs.length : Int) ++ recs ver 0 rs
def numsB : List Int → List Int
  | [] => []
  | n :: r => put n ++ numsB r
def four (n : Int) : List Int := [n / 16777216 % 256, n / 65536 % 256, n / 256 % 256, n % 256]
def headN (ver : Int) (t : Bat) (k : Int) : List Int := if ver = 2 then [t.base, t.epoch, t.producer, t.turn, t.seq, t.flags, k] else [t.base, t.epoch, t.flags, k]
/-- The body as it is written. -/
def bodyS (t : Bat) (ver : Int) : List Int := if t.flags % 2 = 1 then SqF.sq (body ver t.recs) 0 0 [] else body ver t.recs
def pre (t : Bat) (ver : Int) : List Int := [77, ver] ++ numsB (headN ver t (bodyS t ver).length) ++ bodyS t ver
/-- The version holds the batch. -/
def holds (t : Bat) (ver : Int) : Bool := decide (ver = 2) || (decide (ver = 1) && decide (t.producer = -1) && t.recs.all fun r => decide (r.heads.length = 0))

/-! ### How long they are -/
theorem put_le (n : Int) (h : -1000000000000 ≤ n ∧ n ≤ 1000000000000) : (put n).length ≤ 10 := Nums.put_len (by omega) (by omega)
theorem txtIf_le (b : Bool) (s : ByteArray) (h : s.size ≤ 100) : (txtIf b s).length ≤ 110 := by
  unfold txtIf
  split
  · have := put_le (s.size : Int) (by omega)
    rw [List.length_append, txt_len]; omega
  · have := put_le (-1) (by omega)
    omega
theorem okH_parts {h : Hd} (hk : ROk.okH h = true) : h.key.size ≤ 100 ∧ h.val.size ≤ 100 := by
  simp only [ROk.okH, Bool.and_eq_true, decide_eq_true_eq] at hk
  exact ⟨hk.1.2, hk.2⟩
theorem hd_le {h : Hd} (hk : ROk.okH h = true) : (hd h).length ≤ 220 := by
  obtain ⟨h1, h2⟩ := okH_parts hk
  have a := put_le (h.key.size : Int) (by omega)
  have b := put_le (h.val.size : Int) (by omega)
  simp only [hd, List.length_append, txt_len]
  omega
theorem hdsB_le : ∀ (hs : List Hd), hs.all ROk.okH = true → (hdsB hs).length ≤ 220 * hs.length
  | [], _ => by simp [hdsB]
  | h :: r, hk => by
    simp only [List.all_cons, Bool.and_eq_true] at hk
    have := hd_le hk.1
    have := hdsB_le r hk.2
    simp only [hdsB, List.length_append, List.length_cons]
    omega
theorem okR_parts {r : Rec} (h : ROk.okR r = true) : 0 ≤ r.time ∧ r.time ≤ 1000000000000 ∧ r.key.size ≤ 100 ∧ r.val.size ≤ 100 ∧ r.heads.length ≤ 3 ∧ r.heads.all ROk.okH = true := by
  simp only [ROk.okR, ROk.okR0, Bool.and_eq_true, decide_eq_true_eq] at h
  exact ⟨h.1.1.1.1.1.1, h.1.1.1.1.1.2, h.1.1.1.1.2, h.1.1.1.2, h.1.1.2, h.2⟩
theorem hdsV_le (ver : Int) {hs : List Hd} (h : hs.all ROk.okH = true) (hl : hs.length ≤ 3) : (hdsV ver hs).length ≤ 670 := by
  unfold hdsV
  split
  · have := hdsB_le hs h
    have := put_le (hs.length : Int) (by omega)
    rw [hds, List.length_append]; omega
  · simp
theorem rec1_le (ver last : Int) {r : Rec} (h : ROk.okR r = true) (hl : 0 ≤ last ∧ last ≤ 1000000000000) : (rec1 ver last r).length ≤ 900 := by
  obtain ⟨h1, h2, h3, h4, h5, h6⟩ := okR_parts h
  have a := put_le (r.time - last) (by omega)
  have b := txtIf_le r.keyed r.key h3
  have c := txtIf_le (!r.gone) r.val h4
  have d := hdsV_le ver h6 h5
  simp only [rec1, List.length_append]
  omega
theorem recs_le (ver : Int) : ∀ (rs : List Rec) (last : Int), rs.all ROk.okR = true → 0 ≤ last ∧ last ≤ 1000000000000 → (recs ver last rs).length ≤ 900 * rs.length
  | [], _, _, _ => by simp [recs]
  | r :: rs, last, h, hl => by
    simp only [List.all_cons, Bool.and_eq_true] at h
    obtain ⟨h1, h2, _⟩ := okR_parts h.1
    have := rec1_le ver last h.1 hl
    have := recs_le ver rs r.time h.2 ⟨h1, h2⟩
    simp only [recs, List.length_append, List.length_cons]
    omega
theorem body_le (ver : Int) (rs : List Rec) (h : rs.all ROk.okR = true) (hl : rs.length ≤ 40) : (body ver rs).length ≤ 37000 := by
  have := recs_le ver rs 0 h (by omega)
  have := put_le (rs.length : Int) (by omega)
  rw [body, List.length_append]; omega

/-! ### They are bytes -/
def By (l : List Int) : Prop := ∀ x ∈ l, 0 ≤ x ∧ x < 256
theorem By.app {a b : List Int} (h1 : By a) (h2 : By b) : By (a ++ b) := fun x hx => (List.mem_append.1 hx).elim (h1 x) (h2 x)
theorem by_nil : By [] := fun x hx => by simp at hx
theorem by_put (n : Int) : By (put n) := Back.digs_byte _
theorem by_txt (s : ByteArray) : By (txt s) := fun x hx => by
  simp only [txt, List.mem_map] at hx
  obtain ⟨b, _, rfl⟩ := hx
  have := b.toNat_lt
  omega
theorem by_txtIf (b : Bool) (s : ByteArray) : By (txtIf b s) := by
  unfold txtIf
  split
  · exact (by_put _).app (by_txt _)
  · exact by_put _
theorem by_hd (h : Hd) : By (hd h) := (((by_put _).app (by_put _)).app (by_txt _)).app (by_txt _)
theorem by_hdsB : ∀ hs : List Hd, By (hdsB hs)
  | [] => by_nil
  | h :: r => (by_hd h).app (by_hdsB r)
theorem by_hdsV (ver : Int) (hs : List Hd) : By (hdsV ver hs) := by
  unfold hdsV
  split
  · exact (by_put _).app (by_hdsB _)
  · exact by_nil
theorem by_recs (ver : Int) : ∀ (rs : List Rec) (last : Int), By (recs ver last rs)
  | [], _ => by_nil
  | r :: rs, last => ((((by_put _).app (by_txtIf _ _)).app (by_txtIf _ _)).app (by_hdsV _ _)).app (by_recs ver rs _)
theorem by_body (ver : Int) (rs : List Rec) : By (body ver rs) := (by_put _).app (by_recs _ _ _)
theorem by_nums : ∀ ns : List Int, By (numsB ns)
  | [] => by_nil
  | n :: r => (by_put n).app (by_nums r)
theorem By.byt {l : List Int} (h : By l) : Seg.Byt l := Seg.byt_of h

/-! ### Step by step -/
theorem drop_at {α : Type} [Inhabited α] {l : List α} {k : Nat} (h : k < l.length) : l.drop k = l.getD k default :: l.drop (k + 1) := by
  rw [List.drop_eq_getElem_cons h]
  simp [h]
theorem recs_at (ver last : Int) {rs : List Rec} {k : Nat} (h : k < rs.length) : recs ver last (rs.drop k) = rec1 ver last (rs.getD k default) ++ recs ver (rs.getD k default).time (rs.drop (k + 1)) := by
  rw [drop_at h, recs]
theorem hdsB_at {hs : List Hd} {k : Nat} (h : k < hs.length) : hdsB (hs.drop k) = hd (hs.getD k default) ++ hdsB (hs.drop (k + 1)) := by
  rw [drop_at h, hdsB]
theorem numsB_at {ns : List Int} {k : Nat} (h : k < ns.length) : numsB (ns.drop k) = put (ns.getD k 0) ++ numsB (ns.drop (k + 1)) := by
  rw [List.drop_eq_getElem_cons h, numsB]
  simp [h]
end Go.Proofs.Ytdhicmbfknagjaa.WrP
namespace Go.Proofs.Ytdhicmbfknagjaa.Fold
set_option maxRecDepth 8000
open Go.RowKit
theorem hid {p : Prop} (h : p) : Hid p := h
theorem ret_int {k : IntKind} {a b : Int} (h : a = b) : Ending.returned (.int k a) = .returned (.int k b) := by rw [h]
theorem foldSign_any (n : Int) (w : World) (h0 : -9223372036854775808 ≤ n) (h1 : n ≤ 9223372036854775807) :
    Calls Try.prog 97 #[.int .i64 n] w fun e w' => e = .returned (.int .u64 (Nums.fold n)) ∧ w = w' := by
  by_cases hn : n < 0
  · have HF : Hid (bits .xor .u64 IntKind.u64.max (IntKind.u64.wrap (IntKind.u64.wrap n * 2)) = ((Nums.fold n : Nat) : Int)) := Nums.neg_fold n h0 hn
    go_enter Try.func97, Try.ntmps97
    go_wp2
    go_ret
    exact ⟨ret_int HF.out, rfl⟩
  · have HF : Hid (n * 2 = ((Nums.fold n : Nat) : Int)) := Nums.pos_fold n (by omega)
    go_enter Try.func97, Try.ntmps97
    go_wp2
    go_ret
    exact ⟨ret_int HF.out, rfl⟩
end Go.Proofs.Ytdhicmbfknagjaa.Fold
