/- Plain bytes in pieces, behind what is out: both functions that put them; The squeezed bytes, as plain lists: how far the squeezing is; Batches as bytes, on plain lists. -/
import Derived.Deep.AppendLies
import Derived.Deep.LoopGhost
import Derived.Maps.AppendAt
import Derived.Outline
import Derived.Test.YtoplbemolnpngaaGreatRows
import Derived.Test.YtoplbemolnpngaaGreatJP01
import Derived.Test.YtoplbemolnpngaaGreatJP12
import Derived.Test.YtoplbemolnpngaaGreatJP06
namespace Go.Proofs.YtoplbemolnpngaaGreat.SqP
set_option maxRecDepth 8000
open Go.RowKit
open Seg (B)
set_option linter.unusedVariables false
theorem infoB : (Tryz.prog.info? 5).map (fun i => (i.zero, i.size, i.bytes)) = some (some (.int .u8 0), 1, 1) := by kernel_rfl

/-- Plain bytes in pieces, f of them at most. -/
def plainF : Nat → List Int → List Int
  | 0, _ => []
  | f + 1, l => if l.length = 0 then [] else ((min l.length 128 - 1 : Nat) : Int) :: (l.take (min l.length 128) ++ plainF f (l.drop (min l.length 128)))
theorem plainF_same : ∀ (f g : Nat) (l : List Int), l.length ≤ f → l.length ≤ g → plainF f l = plainF g l
  | 0, 0, l, _, _ => rfl
  | 0, g + 1, l, h, _ => by rw [plainF, plainF, if_pos (by omega)]
  | f + 1, 0, l, _, h => by rw [plainF, plainF, if_pos (by omega)]
  | f + 1, g + 1, l, h1, h2 => by
    rw [plainF, plainF]
    by_cases h : l.length = 0
    · rw [if_pos h, if_pos h]
    · rw [if_neg h, if_neg h, plainF_same f g _ (by simp; omega) (by simp; omega)]
def plain (l : List Int) : List Int := plainF l.length l
theorem plain_nil {l : List Int} (h : l.length = 0) : plain l = [] := by rw [plain, h]; rfl
theorem plain_cons {l : List Int} (n : Nat) (hn : n = min l.length 128) (h : ¬ l.length = 0) : plain l = ((n - 1 : Nat) : Int) :: (l.take n ++ plain (l.drop n)) := by
  obtain ⟨f, hf⟩ : ∃ f, l.length = f + 1 := ⟨l.length - 1, by omega⟩
  rw [plain, hf, plainF, if_neg h, plain, ← hn, plainF_same f (l.drop n).length (l.drop n) (by simp; omega) (Nat.le_refl _)]
theorem plainF_len : ∀ (f : Nat) (l : List Int), (plainF f l).length ≤ 2 * l.length
  | 0, l => by simp [plainF]
  | f + 1, l => by
    rw [plainF]
    split
    · simp
    · have := plainF_len f (l.drop (min l.length 128))
      simp only [List.length_cons, List.length_append, List.length_take, List.length_drop] at this ⊢
      omega
theorem plain_len (l : List Int) : (plain l).length ≤ 2 * l.length := plainF_len _ _

/-- A row of bytes of the call's own, over the whole of it. -/
def Out (w : World) (base g cap : Nat) (l : List Int) : Prop := w.ownsRow base 5 1 (.slice (some ⟨g, 0, none⟩) l.length cap) l.length (B l)

/-- append of bytes that lie somewhere to a row of one's own. -/
theorem app {w : World} {ops : Array Oper} {rest : List Oper} {o : Oper} {a : Act} {Q : Exit → Act → World → Prop} (hgd : o.guard = none) (s x : Operand) (ho : o.op = .call { callee := .builtin .append, args := #[s, x], argTypes := #[78, 78] })
    (base g cap : Nat) (l news : List Int) (hs : a.eval s = .slice (some ⟨g, 0, none⟩) l.length cap) (hown : Out w base g cap l) (ad : Addr) (c : Nat) (hx : a.eval x = .slice (some ad) news.length c)
    (hnews : ∀ j, j < news.length → w.cell? (ad.add j) = some (.int .u8 (news.getD j 0))) (hm : 0 < news.length) (hb : l.length + news.length ≤ 10000000) (hbase : base ≤ w.heap.size)
    (h : ∀ g' cap' w', Out w' base g' cap' (l ++ news) → w.grownBy w' (some g) → (g' = g ∨ g' = w.heap.size) → wpList Tryz.prog ops Q rest (a.put o.dst (.slice (some ⟨g', 0, none⟩) (l.length + news.length) cap')) w') : wpList Tryz.prog ops Q (o :: rest) a w := by
  obtain ⟨i0, hi, hz0, hz1, hz2⟩ := info_parts infoB
  refine wpList_append_lies w hgd s x 78 ho base 5 i0 (.int .u8 0) 1 1 Tryz.underlying78 hi hz0 hz1 hz2 rfl (by decide) _ _ _ hs hown ad news.length c (B news) hx (by simp [B]) (fun j u hj => ?_) (by simp [B, Value.oneCell']) hm (by unfold maxLen; omega) (by omega) hbase w.heap.size rfl ?_
  · have hjl : j < news.length := by have := (List.getElem?_eq_some_iff.1 hj).1; simpa [B] using this
    rw [hnews j hjl]
    simpa [B, hjl] using hj
  · intro g' cap' w' h1 h2 h3 h4
    refine h g' cap' w' ?_ h2 (h3.imp (fun e => by simpa [Value.ownBlock] using e.symm) id)
    unfold Out
    rw [List.length_append, show B (l ++ news) = B l ++ B news by simp [B]]
    exact h1
end Go.Proofs.YtoplbemolnpngaaGreat.SqP
namespace Go.Proofs.YtoplbemolnpngaaGreat.SqF
set_option maxRecDepth 8000
open SqM (cp cp_le)
open SqP (plain plain_len)
set_option linter.unusedVariables false
def mark3 (L d : Nat) : List Int := [124 + (L : Int), (((d - 1) / 256 : Nat) : Int), (((d - 1) % 256 : Nat) : Int)]
/-- f steps at most. -/
def sqF (l : List Int) : Nat → Nat → Nat → List Int → List Int
  | 0, at_, p, out => out ++ plain (l.drop p)
  | f + 1, at_, p, out => if at_ < l.length then
      (if (cp l at_).1 = 0 then sqF l f (at_ + 1) p out
       else sqF l f (at_ + (cp l at_).1) (at_ + (cp l at_).1) (out ++ plain ((l.drop p).take (at_ - p)) ++ mark3 (cp l at_).1 (cp l at_).2))
    else out ++ plain (l.drop p)
theorem sqF_same (l : List Int) : ∀ (f g at_ p : Nat) (out : List Int), l.length - at_ ≤ f → l.length - at_ ≤ g → sqF l f at_ p out = sqF l g at_ p out
  | 0, 0, _, _, _, _, _ => rfl
  | 0, g + 1, at_, p, out, h, _ => by rw [sqF, sqF, if_neg (by omega)]
  | f + 1, 0, at_, p, out, _, h => by rw [sqF, sqF, if_neg (by omega)]
  | f + 1, g + 1, at_, p, out, h1, h2 => by
    rw [sqF, sqF]
    by_cases h : at_ < l.length
    · rw [if_pos h, if_pos h]
      by_cases hz : (cp l at_).1 = 0
      · rw [if_pos hz, if_pos hz]
        exact sqF_same l f g _ _ _ (by omega) (by omega)
      · rw [if_neg hz, if_neg hz]
        exact sqF_same l f g _ _ _ (by omega) (by omega)
    · rw [if_neg h, if_neg h]
def sq (l : List Int) (at_ p : Nat) (out : List Int) : List Int := sqF l (l.length - at_) at_ p out
theorem sq_end {l : List Int} {at_ p : Nat} {out : List Int} (h : ¬ at_ < l.length) : sq l at_ p out = out ++ plain (l.drop p) := by
  rw [sq, show l.length - at_ = 0 by omega]; rfl
theorem sq_plain {l : List Int} {at_ p : Nat} {out : List Int} (h : at_ < l.length) (hz : (cp l at_).1 = 0) : sq l at_ p out = sq l (at_ + 1) p out := by
  obtain ⟨f, hf⟩ : ∃ f, l.length - at_ = f + 1 := ⟨l.length - at_ - 1, by omega⟩
  rw [sq, hf, sqF, if_pos h, if_pos hz]
  exact sqF_same l _ _ _ _ _ (by omega) (by omega)
theorem sq_copy {l : List Int} {at_ p : Nat} {out : List Int} (h : at_ < l.length) (hz : ¬ (cp l at_).1 = 0) :
    sq l at_ p out = sq l (at_ + (cp l at_).1) (at_ + (cp l at_).1) (out ++ plain ((l.drop p).take (at_ - p)) ++ mark3 (cp l at_).1 (cp l at_).2) := by
  obtain ⟨f, hf⟩ : ∃ f, l.length - at_ = f + 1 := ⟨l.length - at_ - 1, by omega⟩
  rw [sq, hf, sqF, if_pos h, if_neg hz]
  exact sqF_same l _ _ _ _ _ (by omega) (by omega)
/-- How far the squeezing is: the bytes up to p are out, those from p to the place are plain. -/
structure Sq (l : List Int) (at_ p : Nat) (out : List Int) : Prop where
  pa : p ≤ at_
  al : at_ ≤ l.length
  ol : out.length ≤ 2 * p
  eq : sq l 0 0 [] = sq l at_ p out
theorem Sq.start (l : List Int) : Sq l 0 0 [] := ⟨Nat.le_refl _, Nat.zero_le _, by simp, rfl⟩
theorem Sq.plain {l : List Int} {at_ p : Nat} {out : List Int} (h : Sq l at_ p out) (hlt : at_ < l.length) (hz : (cp l at_).1 = 0) : Sq l (at_ + 1) p out :=
  ⟨by have := h.pa; omega, by omega, h.ol, h.eq.trans (sq_plain hlt hz)⟩
theorem Sq.copy {l : List Int} {at_ p : Nat} {out : List Int} (h : Sq l at_ p out) (hlt : at_ < l.length) (hz : ¬ (cp l at_).1 = 0) :
    Sq l (at_ + (cp l at_).1) (at_ + (cp l at_).1) (out ++ SqP.plain ((l.drop p).take (at_ - p)) ++ mark3 (cp l at_).1 (cp l at_).2) := by
  have hc := cp_le l at_
  have hp := h.pa
  refine ⟨Nat.le_refl _, by omega, ?_, h.eq.trans (sq_copy hlt hz)⟩
  have h1 := h.ol
  have h2 := plain_len ((l.drop p).take (at_ - p))
  simp only [List.length_append, List.length_take, List.length_drop, mark3, List.length_cons, List.length_nil] at h2 ⊢
  omega
theorem Sq.ends {l : List Int} {at_ p : Nat} {out : List Int} (h : Sq l at_ p out) (hlt : ¬ at_ < l.length) : sq l 0 0 [] = out ++ SqP.plain (l.drop p) := h.eq.trans (sq_end hlt)
/-- The squeezed bytes. -/
def squeeze (l : List Int) : List Int := if 60000 < l.length then [] else sq l 0 0 []
end Go.Proofs.YtoplbemolnpngaaGreat.SqF
namespace Go.Proofs.YtoplbemolnpngaaGreat.WrP
set_option maxRecDepth 8000
open Nums (put)
open Recs
set_option linter.unusedVariables false

/-- The bytes of a text. -/
def txt (s : ByteArray) : List Int := s.data.toList.map fun b => (b.toNat : Int)
theorem txt_len (s : ByteArray) : (txt s).length = s.size := by rw [txt, List.length_map, Array.length_toList]; rfl
def txtIf (b : Bool) (s : ByteArray) : List Int := if b then put (s.size : Int) ++ txt s else put (-1)
def hd (h : Hd) : List Int := put (h.key.size : Int) ++ put (h.val.size : Int) ++ txt h.key ++ txt h.val
def hdsB : List Hd → List Int
  | [] => []
  | h :: r => hd h ++ hdsB r
def hds (hs : List Hd) : List Int := put (hs.length : Int) ++ hdsB hs
def hdsV (ver : Int) (hs : List Hd) : List Int := if ver = 2 then hds hs else []
def rec1 (ver last : Int) (r : Rec) : List Int := put (r.time - last) ++ txtIf r.keyed r.key ++ txtIf (!r.gone) r.val ++ hdsV ver r.heads
def recs (ver : Int) : Int → List Rec → List Int
  | _, [] => []
  | last, r :: rs => rec1 ver last r ++ recs ver r.time rs
def body (ver : Int) (rs : List Rec) : List Int := put (rs.length : Int) ++ recs ver 0 rs
def numsB : List Int → List Int
  | [] => []
  | n :: r => put n ++ numsB r
def four (n : Int) : List Int := [n / 16777216 % 256, n / 65536 % 256, n / 256 % 256, n % 256]
def headN (ver : Int) (t : Bat) (k : Int) : List Int := if ver = 2 then [t.base, t.epoch, t.producer, t.turn, t.seq, t.flags, k] else [t.base, t.epoch, t.flags, k]
/-- The body as it is written. -/
def bodyS (t : Bat) (ver : Int) : List Int := if t.flags % 2 = 1 then SqF.sq (body ver t.recs) 0 0 [] else body ver t.recs
def pre (t : Bat) (ver : Int) : List Int := [77, ver] ++ numsB (headN ver t (bodyS t ver).length) ++ bodyS t ver
/-- The version holds the batch. -/
def holds (t : Bat) (ver : Int) : Bool := decide (ver = 2) || (decide (ver = 1) && decide (t.producer = -1) && t.recs.all fun r => decide (r.heads.length = 0))

/-! ### How long they are -/
theorem put_le (n : Int) (h : -1000000000000 ≤ n ∧ n ≤ 1000000000000) : (put n).length ≤ 10 := Nums.put_len (by omega) (by omega)
theorem txtIf_le (b : Bool) (s : ByteArray) (h : s.size ≤ 100) : (txtIf b s).length ≤ 110 := by
  unfold txtIf
  split
  · have := put_le (s.size : Int) (by omega)
    rw [List.length_append, txt_len]; omega
  · have := put_le (-1) (by omega)
    omega
theorem okH_parts {h : Hd} (hk : ROk.okH h = true) : h.key.size ≤ 100 ∧ h.val.size ≤ 100 := by
  simp only [ROk.okH, Bool.and_eq_true, decide_eq_true_eq] at hk
  exact ⟨hk.1.2, hk.2⟩
theorem hd_le {h : Hd} (hk : ROk.okH h = true) : (hd h).length ≤ 220 := by
  obtain ⟨h1, h2⟩ := okH_parts hk
  have a := put_le (h.key.size : Int) (by omega)
  have b := put_le (h.val.size : Int) (by omega)
  simp only [hd, List.length_append, txt_len]
  omega
theorem hdsB_le : ∀ (hs : List Hd), hs.all ROk.okH = true → (hdsB hs).length ≤ 220 * hs.length
  | [], _ => by simp [hdsB]
  | h :: r, hk => by
    simp only [List.all_cons, Bool.and_eq_true] at hk
    have := hd_le hk.1
    have := hdsB_le r hk.2
    simp only [hdsB, List.length_append, List.length_cons]
    omega
theorem okR_parts {r : Rec} (h : ROk.okR r = true) : 0 ≤ r.time ∧ r.time ≤ 1000000000000 ∧ r.key.size ≤ 100 ∧ r.val.size ≤ 100 ∧ r.heads.length ≤ 3 ∧ r.heads.all ROk.okH = true := by
  simp only [ROk.okR, ROk.okR0, Bool.and_eq_true, decide_eq_true_eq] at h
  exact ⟨h.1.1.1.1.1.1, h.1.1.1.1.1.2, h.1.1.1.1.2, h.1.1.1.2, h.1.1.2, h.2⟩
theorem hdsV_le (ver : Int) {hs : List Hd} (h : hs.all ROk.okH = true) (hl : hs.length ≤ 3) : (hdsV ver hs).length ≤ 670 := by
  unfold hdsV
  split
  · have := hdsB_le hs h
    have := put_le (hs.length : Int) (by omega)
    rw [hds, List.length_append]; omega
  · simp
theorem rec1_le (ver last : Int) {r : Rec} (h : ROk.okR r = true) (hl : 0 ≤ last ∧ last ≤ 1000000000000) : (rec1 ver last r).length ≤ 900 := by
  obtain ⟨h1, h2, h3, h4, h5, h6⟩ := okR_parts h
  have a := put_le (r.time - last) (by omega)
  have b := txtIf_le r.keyed r.key h3
  have c := txtIf_le (!r.gone) r.val h4
  have d := hdsV_le ver h6 h5
  simp only [rec1, List.length_append]
  omega
theorem recs_le (ver : Int) : ∀ (rs : List Rec) (last : Int), rs.all ROk.okR = true → 0 ≤ last ∧ last ≤ 1000000000000 → (recs ver last rs).length ≤ 900 * rs.length
  | [], _, _, _ => by simp [recs]
  | r :: rs, last, h, hl => by
    simp only [List.all_cons, Bool.and_eq_true] at h
    obtain ⟨h1, h2, _⟩ := okR_parts h.1
    have := rec1_le ver last h.1 hl
    have := recs_le ver rs r.time h.2 ⟨h1, h2⟩
    simp only [recs, List.length_append, List.length_cons]
    omega
theorem body_le (ver : Int) (rs : List Rec) (h : rs.all ROk.okR = true) (hl : rs.length ≤ 40) : (body ver rs).length ≤ 37000 := by
  have := recs_le ver rs 0 h (by omega)
  have := put_le (rs.length : Int) (by omega)
  rw [body, List.length_append]; omega

/-! ### They are bytes -/
def By (l : List Int) : Prop := ∀ x ∈ l, 0 ≤ x ∧ x < 256
theorem By.app {a b : List Int} (h1 : By a) (h2 : By b) : By (a ++ b) := fun x hx => (List.mem_append.1 hx).elim (h1 x) (h2 x)
theorem by_nil : By [] := fun x hx => by simp at hx
theorem by_put (n : Int) : By (put n) := Back.digs_byte _
theorem by_txt (s : ByteArray) : By (txt s) := fun x hx => by
  simp only [txt, List.mem_map] at hx
  obtain ⟨b, _, rfl⟩ := hx
  have := b.toNat_lt
  omega
theorem by_txtIf (b : Bool) (s : ByteArray) : By (txtIf b s) := by
  unfold txtIf
  split
  · exact (by_put _).app (by_txt _)
  · exact by_put _
theorem by_hd (h : Hd) : By (hd h) := (((by_put _).app (by_put _)).app (by_txt _)).app (by_txt _)
theorem by_hdsB : ∀ hs : List Hd, By (hdsB hs)
  | [] => by_nil
  | h :: r => (by_hd h).app (by_hdsB r)
theorem by_hdsV (ver : Int) (hs : List Hd) : By (hdsV ver hs) := by
  unfold hdsV
  split
  · exact (by_put _).app (by_hdsB _)
  · exact by_nil
theorem by_recs (ver : Int) : ∀ (rs : List Rec) (last : Int), By (recs ver last rs)
  | [], _ => by_nil
  | r :: rs, last => ((((by_put _).app (by_txtIf _ _)).app (by_txtIf _ _)).app (by_hdsV _ _)).app (by_recs ver rs _)
theorem by_body (ver : Int) (rs : List Rec) : By (body ver rs) := (by_put _).app (by_recs _ _ _)
theorem by_nums : ∀ ns : List Int, By (numsB ns)
  | [] => by_nil
  | n :: r => (by_put n).app (by_nums r)
theorem By.byt {l : List Int} (h : By l) : Seg.Byt l := Seg.byt_of h

/-! ### Step by step -/
theorem drop_at {α : Type} [Inhabited α] {l : List α} {k : Nat} (h : k < l.length) : l.drop k = l.getD k default :: l.drop (k + 1) := by
  rw [List.drop_eq_getElem_cons h]
  simp [h]
theorem recs_at (ver last : Int) {rs : List Rec} {k : Nat} (h : k < rs.length) : recs ver last (rs.drop k) = rec1 ver last (rs.getD k default) ++ recs ver (rs.getD k default).time (rs.drop (k + 1)) := by
  rw [drop_at h, recs]
theorem hdsB_at {hs : List Hd} {k : Nat} (h : k < hs.length) : hdsB (hs.drop k) = hd (hs.getD k default) ++ hdsB (hs.drop (k + 1)) := by
  rw [drop_at h, hdsB]
theorem numsB_at {ns : List Int} {k : Nat} (h : k < ns.length) : numsB (ns.drop k) = put (ns.getD k 0) ++ numsB (ns.drop (k + 1)) := by
  rw [List.drop_eq_getElem_cons h, numsB]
  simp [h]
end Go.Proofs.YtoplbemolnpngaaGreat.WrP
